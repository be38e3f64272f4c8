package promise

import (
	"fmt"
	"math"
	"math/rand"
	"slices"
	"testing"

	"storeman/api"
	"storeman/flow"
	"storeman/kit"
	"storeman/rank"
	"storeman/swap"
)

func kept(code string, others ...string) api.Item {
	return api.Item{Code: code, Life: 9, Others: others}
}

func kitOf(code string, parts ...api.Part) api.Item {
	return api.Item{Code: code, Parts: parts}
}

func part(item string, qty int64) api.Part { return api.Part{Item: item, Qty: qty} }

func batch(id int, item string, from, until int, qty int64) api.Lot {
	return api.Lot{Id: id, Item: item, Days: api.Window{From: from, Until: until}, Qty: qty}
}

func arrived(l api.Lot) api.Lot {
	l.Arrived = true
	return l
}

// line answers a right line that is open and put back.
func line(id int, item string, qty int64, asked, rank int) api.Line {
	return api.Line{Id: id, Item: item, Qty: qty, Asked: asked, Rank: rank, State: api.LineOpen, Day: -1}
}

// in answers a line in a state, with what it is confirmed for.
func in(l api.Line, state api.LineState, day int, code string) api.Line {
	l.State, l.Day, l.Code = state, day, code
	return l
}

func confirmed(l api.Line, day int, code string) api.Line { return in(l, api.LineOpen, day, code) }

func shipped(l api.Line, day int, code string) api.Line { return in(l, api.LineShipped, day, code) }

func off(l api.Line) api.Line { return in(l, api.LineOff, -1, "") }

func want(item string, day int, qty int64) api.Want {
	return api.Want{Item: item, Day: day, Qty: qty}
}

// goods answers items of each kind: two that are kept, a kit of both, a kit of kits, one that others may stand for, and one too great to be had often.
func goods() []api.Item {
	k := kitOf("K", part("B", 1), part("A", 2))
	k.Others = []string{"C", "L"}
	return []api.Item{
		kept("A", "C", "B"), kept("B"), kept("C", "A"), k,
		kitOf("L", part("K", 3), part("A", 1)), kitOf("M", part("A", 1<<30)),
	}
}

// example answers the state of the chapter's example.
func example() api.State {
	return api.State{
		Now: 3, NextLot: 2, NextLine: 3, Items: []api.Item{kept("A")},
		Lots:  []api.Lot{arrived(batch(1, "A", 3, 9, 5))},
		Lines: []api.Line{line(1, "A", 4, 0, 5), line(2, "A", 2, 0, 1)},
	}
}

// copied answers a state that shares nothing with s.
func copied(s api.State) api.State {
	s.Lots, s.Lines, s.Items = slices.Clone(s.Lots), slices.Clone(s.Lines), slices.Clone(s.Items)
	for i, item := range s.Items {
		s.Items[i].Parts, s.Items[i].Others = slices.Clone(item.Parts), slices.Clone(item.Others)
	}
	return s
}

// edges are ints at, beside and far from the edges that the chapter names.
func edges() []int {
	return []int{math.MinInt, math.MinInt + 1, math.MinInt32, -401, -400, -2, -1, 0, 1, 2, 399, 400, 401, 3599, 3600, 3601, 3999, 4000, 4001, 4400, math.MaxInt32, math.MaxInt - 400, math.MaxInt}
}

// short cuts what is told of a failure.
func short(l ...any) string {
	s := fmt.Sprintf("%+v", l)
	return s[:min(len(s), 1500)]
}

func wantsSo(t *testing.T, items []api.Item, lines []api.Line, want ...api.Want) {
	t.Helper()
	if got := Wants(items, lines); !slices.Equal(got, want) {
		t.Errorf("Wants of %s: %v, not %v", short(lines), got, want)
	}
}

// oneSo holds that One confirms a line for that day by that code (-1 and none: puts it back), and turns nothing else of it.
func oneSo(t *testing.T, s api.State, l api.Line, day int, code string) {
	t.Helper()
	want := l
	want.Day, want.Code = day, code
	if got := One(s, l); got != want {
		t.Errorf("One of %s: %+v, not %+v", short(s, l), got, want)
	}
}

// asIs holds that One answers the line itself.
func asIs(t *testing.T, s api.State, l api.Line) {
	t.Helper()
	if got := One(s, l); got != l {
		t.Errorf("One of %s: %+v", short(s, l), got)
	}
}

func allSo(t *testing.T, s api.State, want ...api.Line) {
	t.Helper()
	if got := All(s); !slices.Equal(got, want) {
		t.Errorf("All of %s:\n%+v, not\n%+v", short(s), got, want)
	}
}

func TestP10_1Lines(t *testing.T) {
	items := goods()
	wantsSo(t, items, nil)
	wantsSo(t, items, []api.Line{})
	wantsSo(t, nil, nil)
	wantsSo(t, items, []api.Line{confirmed(line(1, "A", 4, 0, 5), 7, "A")}, want("A", 7, 4))
	wantsSo(t, items, []api.Line{confirmed(line(1, "A", 4, 0, 5), 0, "A")}, want("A", 0, 4))
	// What is taken for it counts, not what it asks for.
	wantsSo(t, items, []api.Line{confirmed(line(1, "A", 4, 0, 5), 7, "C")}, want("C", 7, 4))
	wantsSo(t, items, []api.Line{confirmed(line(1, "Z", 4, 0, 5), 7, "C")}, want("C", 7, 4))
	// A kit's parts stand by rising codes, whatever the kit's own order; each with what is in it in the end.
	wantsSo(t, items, []api.Line{confirmed(line(1, "K", 3, 0, 5), 7, "K")}, want("A", 7, 6), want("B", 7, 3))
	wantsSo(t, items, []api.Line{confirmed(line(1, "C", 2, 0, 5), 9, "L")}, want("A", 9, 14), want("B", 9, 6))
	for _, gone := range []api.Line{line(1, "A", 4, 0, 5), off(line(1, "A", 4, 0, 5)), shipped(line(1, "A", 4, 0, 5), 7, "A")} {
		wantsSo(t, items, []api.Line{gone})
	}
}

// TestP10_1Order: as the lines stand, not by rank, Id or day, nothing put together.
func TestP10_1Order(t *testing.T) {
	lines := []api.Line{
		confirmed(line(5, "K", 1, 0, 9), 9, "K"), shipped(line(4, "A", 1, 0, 0), 1, "A"), confirmed(line(3, "B", 1, 0, 8), 2, "B"),
		line(9, "A", 1, 0, 0), confirmed(line(1, "A", 2, 0, 7), 9, "A"), off(line(8, "B", 1, 0, 0)), confirmed(line(3, "B", 1, 0, 8), 2, "B"),
	}
	wantsSo(t, goods(), lines, want("A", 9, 2), want("B", 9, 1), want("B", 2, 1), want("A", 9, 2), want("B", 2, 1))
	slices.Reverse(lines)
	wantsSo(t, goods(), lines, want("B", 2, 1), want("A", 9, 2), want("B", 2, 1), want("A", 9, 2), want("B", 9, 1))
}

// TestP10_1AnyLines: nothing else is asked of a line than that it is open and has a day.
func TestP10_1AnyLines(t *testing.T) {
	items := goods()
	for state := range 256 {
		l := in(line(1, "A", 4, 0, 5), api.LineState(state), 7, "A")
		if state == 1 {
			wantsSo(t, items, []api.Line{l}, want("A", 7, 4))
		} else {
			wantsSo(t, items, []api.Line{l})
		}
	}
	for _, day := range edges() {
		l := confirmed(line(1, "A", 4, 0, 5), day, "A")
		if day >= 0 {
			wantsSo(t, items, []api.Line{l}, want("A", day, 4))
		} else {
			wantsSo(t, items, []api.Line{l})
		}
	}
	wrong := api.Line{Id: -1, Item: "a", Qty: 1 << 50, Asked: -1, Rank: 100, State: 1, Day: 5, Code: "A"}
	wantsSo(t, items, []api.Line{wrong}, want("A", 5, 1<<50))
}

// TestP10_1NoParts: of a line whose parts tell an error there are no wants; of those beside it there are.
func TestP10_1NoParts(t *testing.T) {
	beside := confirmed(line(2, "B", 1, 0, 5), 2, "B")
	for _, l := range []api.Line{
		confirmed(line(1, "A", 0, 0, 5), 7, "A"), confirmed(line(1, "A", -1, 0, 5), 7, "A"), confirmed(line(1, "A", math.MinInt64, 0, 5), 7, "A"),
		confirmed(line(1, "A", 1<<50+1, 0, 5), 7, "A"), confirmed(line(1, "A", math.MaxInt64, 0, 5), 7, "A"),
		confirmed(line(1, "A", 4, 0, 5), 7, ""), confirmed(line(1, "A", 4, 0, 5), 7, "Z"), confirmed(line(1, "A", 4, 0, 5), 7, "a"),
		confirmed(line(1, "M", 1<<20+1, 0, 5), 7, "M"), confirmed(line(1, "L", 1<<50, 0, 5), 7, "L"), {State: 1},
	} {
		wantsSo(t, goods(), []api.Line{l})
		wantsSo(t, goods(), []api.Line{l, beside}, want("B", 2, 1))
		wantsSo(t, goods(), []api.Line{beside, l, beside}, want("B", 2, 1), want("B", 2, 1))
	}
	wantsSo(t, goods(), []api.Line{confirmed(line(1, "M", 1<<20, 0, 5), 7, "M")}, want("A", 7, 1<<50))
	// Of items that are not sound nothing has parts.
	for _, items := range unsound() {
		wantsSo(t, items, []api.Line{beside, confirmed(line(1, "A", 4, 0, 5), 7, "A")})
	}
}

// unsound answers items that are not sound, each with A and B among them, but the first.
func unsound() [][]api.Item {
	many := []api.Item{kept("A"), kept("B")}
	for i := range 59 {
		many = append(many, kept(fmt.Sprint("C", 100+i)))
	}
	return [][]api.Item{
		nil, {kept("B"), kept("A")}, {kept("A"), kept("A"), kept("B")}, {kept("A"), kept("B"), {Code: "C"}}, {kept("A"), kept("B"), kept("c")},
		{kept("A"), kept("B"), kitOf("K", part("Z", 1))}, {kept("A"), kept("B"), kitOf("K", part("K", 1))}, {kept("A"), kept("B"), kitOf("K", part("L", 1)), kitOf("L", part("K", 1))}, many,
	}
}

func TestP10_2Example(t *testing.T) {
	s := example()
	oneSo(t, s, s.Lines[0], 3, "A")
	oneSo(t, s, s.Lines[1], 3, "A")
	oneSo(t, s, line(3, "A", 5, 0, 0), 3, "A")
	oneSo(t, s, line(3, "A", 6, 0, 0), -1, "")
	oneSo(t, s, line(3, "A", 5, 8, 0), 8, "A")
	oneSo(t, s, line(3, "A", 5, 9, 0), -1, "")
	s.Lines[1].Day, s.Lines[1].Code = 3, "A"
	oneSo(t, s, s.Lines[0], -1, "")
	s.Lots = append(s.Lots, batch(2, "A", 6, 20, 9))
	oneSo(t, s, s.Lines[0], 6, "A")
	// It's promised anew, whatever it is confirmed for, and nothing of that is left where there is nothing.
	oneSo(t, s, confirmed(line(1, "A", 4, 0, 5), 17, "B"), 6, "A")
	oneSo(t, s, confirmed(line(1, "A", 99, 0, 5), 17, "B"), -1, "")
}

// TestP10_2LineAsItIs: a line that is not right, or not open, is answered as it is, whatever there is.
func TestP10_2LineAsItIs(t *testing.T) {
	s := example()
	s.Lines = nil
	faults := []func(*api.Line){
		func(l *api.Line) { l.Id = 0 }, func(l *api.Line) { l.Id = math.MinInt }, func(l *api.Line) { l.Item = "" }, func(l *api.Line) { l.Item = "a" },
		func(l *api.Line) { l.Qty = 0 }, func(l *api.Line) { l.Qty = -1 }, func(l *api.Line) { l.Qty = 1<<30 + 1 }, func(l *api.Line) { l.Qty = math.MinInt64 },
		func(l *api.Line) { l.Asked = -1 }, func(l *api.Line) { l.Asked = 4001 }, func(l *api.Line) { l.Rank = -1 }, func(l *api.Line) { l.Rank = 100 },
		func(l *api.Line) { l.Day, l.Code = -2, "" }, func(l *api.Line) { l.Day, l.Code = -1, "A" }, func(l *api.Line) { l.Day, l.Code = 4001, "A" }, func(l *api.Line) { l.Day, l.Code = 5, "" }, func(l *api.Line) { l.Day, l.Code = 5, "a" },
		func(l *api.Line) { l.State = 0 }, func(l *api.Line) { l.State = 4 }, func(l *api.Line) { l.State = 255 },
		func(l *api.Line) { *l = off(*l) }, func(l *api.Line) { *l = shipped(*l, 5, "A") }, func(l *api.Line) { *l = shipped(*l, 4, "B") },
		func(l *api.Line) { l.State = api.LineOff }, func(l *api.Line) { l.State = api.LineShipped }, func(l *api.Line) { *l = api.Line{} },
	}
	for i, fault := range faults {
		for _, base := range []api.Line{line(1, "A", 4, 0, 5), confirmed(line(1, "A", 4, 0, 5), 7, "A"), confirmed(line(1, "A", 99, 0, 5), 7, "C")} {
			l := base
			fault(&l)
			if rank.Right(l) && l.State == api.LineOpen {
				t.Error("the test is wrong:", i, l)
			}
			asIs(t, s, l)
			if got := One(api.State{}, l); got != l {
				t.Error("of a state with nothing:", i, got)
			}
		}
	}
	oneSo(t, s, line(1, "A", 4, 0, 5), 3, "A")
}

// TestP10_2Now: a day that there is not promises nothing.
func TestP10_2Now(t *testing.T) {
	for _, now := range edges() {
		s := example()
		s.Lines = nil
		s.Now = now
		s.Lots = []api.Lot{batch(1, "A", 0, 4001, 5)}
		for _, l := range []api.Line{line(1, "A", 4, 0, 5), confirmed(line(1, "A", 4, 0, 5), 7, "A"), confirmed(line(1, "A", 6, 0, 5), 7, "A")} {
			switch {
			case now < 0 || now > 4000:
				asIs(t, s, l)
			case l.Qty == 4:
				oneSo(t, s, l, now, "A")
			default:
				oneSo(t, s, l, -1, "")
			}
		}
	}
}

// TestP10_2Days: from the later one of the day asked for and now, up to the horizon or the last day, both with them.
func TestP10_2Days(t *testing.T) {
	for _, c := range []struct {
		now, asked, from, until int
		day                     int
	}{
		{3, 0, 0, 9, 3}, {3, 2, 0, 9, 3}, {3, 3, 0, 9, 3}, {3, 4, 0, 9, 4}, {3, 8, 0, 9, 8}, {3, 9, 0, 9, -1}, {9, 0, 0, 9, -1}, {8, 0, 0, 9, 8}, {3, 0, 7, 9, 7}, {3, 5, 7, 9, 7},
		// The horizon.
		{3, 0, 402, 500, 402}, {3, 0, 403, 500, 403}, {3, 0, 404, 500, -1}, {3, 403, 0, 500, 403}, {3, 404, 0, 500, -1}, {3, 4000, 0, 4001, -1}, {4, 404, 0, 500, 404}, {0, 400, 0, 500, 400}, {0, 401, 0, 500, -1},
		{0, 0, 400, 500, 400}, {0, 0, 401, 500, -1}, {3, 200, 403, 500, 403}, {3, 200, 404, 500, -1},
		// The last day comes ahead of it.
		{3599, 0, 3999, 4001, 3999}, {3599, 0, 4000, 4001, -1}, {3600, 0, 4000, 4001, 4000}, {3601, 0, 4000, 4001, 4000}, {3601, 4000, 3000, 4001, 4000},
		{4000, 0, 4000, 4001, 4000}, {4000, 4000, 2000, 4001, 4000}, {4000, 0, 2000, 4000, -1}, {3999, 4000, 2000, 4001, 4000}, {4000, 0, 0, 4001, 4000},
	} {
		s := api.State{Now: c.now, Items: []api.Item{kept("A")}, Lots: []api.Lot{batch(1, "A", c.from, c.until, 5)}}
		code := ""
		if c.day >= 0 {
			code = "A"
		}
		oneSo(t, s, line(1, "A", 5, c.asked, 5), c.day, code)
		oneSo(t, s, line(1, "A", 6, c.asked, 5), -1, "")
		s.Lots[0].Arrived = true
		oneSo(t, s, line(1, "A", 5, c.asked, 5), c.day, code)
	}
}

// TestP10_2Codes: the first code with which there is a day, not the one that has the first day.
func TestP10_2Codes(t *testing.T) {
	s := api.State{Now: 3, Items: goods()}
	a := line(1, "A", 4, 0, 5)
	oneSo(t, s, a, -1, "")
	s.Lots = []api.Lot{batch(1, "B", 0, 20, 4)}
	oneSo(t, s, a, 3, "B")
	s.Lots = append(s.Lots, batch(2, "C", 9, 20, 4))
	oneSo(t, s, a, 9, "C")
	s.Lots = append(s.Lots, batch(3, "A", 15, 20, 4))
	oneSo(t, s, a, 15, "A")
	oneSo(t, s, line(1, "A", 5, 0, 5), -1, "") // none of them alone has enough
	a.Asked = 16
	oneSo(t, s, a, 16, "A")
	// What may stand for it is not taken, where its own is beyond the horizon only just not.
	s.Lots[2] = batch(3, "A", 403, 420, 4)
	oneSo(t, s, line(1, "A", 4, 0, 5), 403, "A")
	s.Lots[2] = batch(3, "A", 404, 420, 4)
	oneSo(t, s, line(1, "A", 4, 0, 5), 9, "C")
	// Others stand for it, not it for them; and none for those that stand for it.
	s.Lots = []api.Lot{batch(1, "A", 0, 20, 9)}
	oneSo(t, s, line(1, "B", 4, 0, 5), -1, "")
	oneSo(t, s, line(1, "C", 4, 0, 5), 3, "A")
	oneSo(t, s, line(1, "K", 1, 0, 5), -1, "")
}

// TestP10_2OddOthers: Others are taken as they stand, though there may be none of that code, or too many.
func TestP10_2OddOthers(t *testing.T) {
	s := api.State{Now: 3, Items: []api.Item{kept("A", "Z", "", "a", "A", "B", "C"), kept("B"), kept("C")}, Lots: []api.Lot{batch(1, "C", 0, 9, 4)}}
	oneSo(t, s, line(1, "A", 4, 0, 5), 3, "C")
	s.Lots = append(s.Lots, batch(2, "B", 7, 9, 4))
	oneSo(t, s, line(1, "A", 4, 0, 5), 7, "B")
	oneSo(t, s, line(1, "Z", 4, 0, 5), -1, "")
	s.Lots = append(s.Lots, batch(3, "Z", 0, 9, 4))
	oneSo(t, s, line(1, "Z", 4, 0, 5), -1, "")
	oneSo(t, s, line(1, "A", 4, 0, 5), 7, "B")
}

func TestP10_2Kits(t *testing.T) {
	s := api.State{Now: 3, Items: goods(), Lots: []api.Lot{batch(1, "A", 0, 9, 4), batch(2, "B", 5, 20, 2)}}
	oneSo(t, s, line(1, "K", 1, 0, 5), 5, "K")
	oneSo(t, s, line(1, "K", 2, 0, 5), 5, "K")
	oneSo(t, s, line(1, "K", 3, 0, 5), -1, "")
	// All parts are had on one day.
	s.Lots[0].Days.Until = 5
	oneSo(t, s, line(1, "K", 1, 0, 5), -1, "")
	s.Lots = append(s.Lots, batch(3, "A", 14, 16, 2))
	oneSo(t, s, line(1, "K", 1, 0, 5), 14, "K")
	oneSo(t, s, line(1, "K", 1, 16, 5), -1, "")
	// A kit itself is not kept: a lot of it serves nothing.
	s.Lots = []api.Lot{batch(1, "K", 0, 20, 9)}
	oneSo(t, s, line(1, "K", 1, 0, 5), -1, "")
	// What is kept may stand for a kit, and a kit of kits, too.
	s.Lots = append(s.Lots, batch(2, "A", 0, 20, 7), batch(3, "B", 6, 20, 3))
	oneSo(t, s, line(1, "K", 1, 0, 5), 6, "K")
	oneSo(t, s, line(1, "L", 1, 0, 5), 6, "L")
	oneSo(t, s, line(1, "L", 2, 0, 5), -1, "")
	s.Lots = append(s.Lots, batch(4, "C", 12, 20, 4))
	oneSo(t, s, line(1, "K", 4, 0, 5), 12, "C")
}

// TestP10_2PartsTooMany: a code whose parts tell an error has no day; the next one may have.
func TestP10_2PartsTooMany(t *testing.T) {
	m := kitOf("M", part("A", 1<<30))
	m.Others = []string{"B"}
	s := api.State{Now: 3, Items: []api.Item{kept("A"), kept("B"), m}, Lots: []api.Lot{batch(1, "A", 0, 9, 1<<30), batch(2, "B", 7, 9, 1<<30)}}
	oneSo(t, s, line(1, "M", 1, 0, 5), 3, "M")
	oneSo(t, s, line(1, "M", 2, 0, 5), 7, "B")
	oneSo(t, s, line(1, "M", 1<<20+1, 0, 5), 7, "B")
	oneSo(t, s, line(1, "M", 1<<30, 0, 5), 7, "B")
	for _, items := range unsound() {
		s.Items = items
		oneSo(t, s, line(1, "A", 1, 0, 5), -1, "")
		oneSo(t, s, confirmed(line(1, "A", 1, 0, 5), 4, "A"), -1, "")
	}
}

// TestP10_2Beside: what others have stays theirs, sooner or later; the line's own is its to give.
func TestP10_2Beside(t *testing.T) {
	s := api.State{Now: 3, Items: goods(), Lots: []api.Lot{batch(1, "A", 0, 9, 5), batch(2, "A", 20, 30, 5)}}
	s.Lines = []api.Line{confirmed(line(1, "A", 4, 0, 99), 8, "A"), shipped(line(2, "A", 5, 0, 0), 3, "A"), off(line(3, "A", 5, 0, 0)), line(4, "A", 5, 0, 0)}
	oneSo(t, s, line(5, "A", 1, 0, 50), 3, "A")
	oneSo(t, s, line(5, "A", 2, 0, 50), 20, "A") // ranks mean nothing to One
	oneSo(t, s, line(5, "A", 6, 0, 50), -1, "")
	oneSo(t, s, line(1, "A", 5, 0, 99), 3, "A")
	oneSo(t, s, s.Lines[0], 3, "A")
	// The line of its Id is left out, whatever else it is.
	oneSo(t, s, line(1, "A", 5, 4, 0), 4, "A")
	s.Lines[0] = confirmed(line(1, "B", 4, 0, 99), 8, "A")
	oneSo(t, s, line(1, "A", 5, 4, 0), 4, "A")
	oneSo(t, s, line(5, "A", 5, 4, 0), 20, "A")
	// What is taken for the others counts, not what they ask for.
	s.Lines[0] = confirmed(line(1, "A", 4, 0, 99), 8, "C")
	s.Lots = append(s.Lots, batch(3, "C", 0, 9, 4))
	oneSo(t, s, line(5, "A", 5, 0, 50), 3, "A")
	oneSo(t, s, line(5, "C", 1, 0, 50), 3, "A")
	// Kits take their parts.
	s.Lots = append(s.Lots, batch(4, "B", 0, 9, 2))
	s.Lines = []api.Line{confirmed(line(1, "K", 2, 0, 0), 5, "K")}
	oneSo(t, s, line(5, "A", 1, 0, 50), 3, "A")
	oneSo(t, s, line(5, "B", 1, 0, 50), -1, "")
	oneSo(t, s, line(1, "B", 1, 0, 50), 3, "B")
}

// TestP10_2NotEnoughAlready: where the others want too much, or what may not be, or lots may not be, nothing can be promised.
func TestP10_2NotEnoughAlready(t *testing.T) {
	base := api.State{Now: 3, Items: goods(), Lots: []api.Lot{batch(1, "A", 0, 9, 5), batch(2, "B", 0, 9, 5)}}
	oneSo(t, base, line(5, "A", 1, 0, 5), 3, "A")
	for _, other := range []api.Line{
		confirmed(line(1, "B", 6, 0, 5), 3, "B"), confirmed(line(1, "A", 6, 0, 5), 3, "A"), confirmed(line(1, "B", 1, 0, 5), 9, "B"), confirmed(line(1, "C", 1, 0, 5), 3, "C"),
		confirmed(line(1, "B", 1, 0, 5), 4001, "B"), confirmed(line(1, "B", 1, 0, 5), math.MaxInt, "B"), confirmed(line(1, "M", 1<<20, 0, 5), 3, "M"),
	} {
		s := copied(base)
		s.Lines = []api.Line{other}
		oneSo(t, s, line(5, "A", 1, 0, 5), -1, "")
		oneSo(t, s, confirmed(line(5, "A", 1, 0, 5), 4, "A"), -1, "")
		oneSo(t, s, line(1, "A", 1, 0, 5), 3, "A") // its own wants don't count
	}
	for _, other := range []api.Line{confirmed(line(1, "B", 6, 0, 5), -2, "B"), confirmed(line(1, "B", 6, 0, 5), 3, "Z"), shipped(line(1, "B", 6, 0, 5), 3, "B"), in(line(1, "B", 6, 0, 5), 0, 3, "B"), line(1, "B", 6, 0, 5)} {
		s := copied(base)
		s.Lines = []api.Line{other}
		oneSo(t, s, line(5, "A", 1, 0, 5), 3, "A")
	}
	for _, wrong := range []api.Lot{{}, batch(1, "C", 0, 9, 5), batch(0, "C", 0, 9, 5), batch(9, "c", 0, 9, 5), batch(9, "C", 5, 5, 5), batch(9, "C", 0, 4002, 5), batch(9, "C", 0, 9, 0), batch(9, "C", 0, 9, 1<<30+1)} {
		s := copied(base)
		s.Lots = append(s.Lots, wrong)
		oneSo(t, s, line(5, "A", 1, 0, 5), -1, "")
		s.Lines = []api.Line{line(5, "A", 1, 0, 5), confirmed(line(6, "B", 1, 0, 5), 3, "B")}
		allSo(t, s, line(5, "A", 1, 0, 5), line(6, "B", 1, 0, 5))
	}
}

// TestP10_2Limits: as many lots, and as many wants, as flow takes, and one more.
func TestP10_2Limits(t *testing.T) {
	s := api.State{Now: 3, Items: goods()}
	for i := range 300 {
		s.Lots = append(s.Lots, batch(i+1, "A", 0, 9, 1))
	}
	oneSo(t, s, line(1, "A", 300, 0, 5), 3, "A")
	s.Lots = append(s.Lots, batch(301, "A", 0, 9, 1))
	oneSo(t, s, line(1, "A", 300, 0, 5), -1, "")
	s.Lots = []api.Lot{batch(1, "A", 0, 9, 1<<30), batch(2, "B", 0, 9, 1<<30)}
	for i := range 19999 {
		s.Lines = append(s.Lines, confirmed(line(i+1, "A", 1, 0, 5), 3, "A"))
	}
	oneSo(t, s, line(30000, "A", 1, 0, 5), 3, "A")
	oneSo(t, s, line(30000, "K", 1, 0, 5), -1, "") // two parts are one want too many
	oneSo(t, s, line(1, "K", 1, 0, 5), 3, "K")
	s.Lines = append(s.Lines, confirmed(line(20000, "A", 1, 0, 5), 3, "A"))
	oneSo(t, s, line(30000, "A", 1, 0, 5), -1, "")
	oneSo(t, s, line(1, "A", 1, 0, 5), 3, "A")
}

// plainWants is Wants as the chapter says it.
func plainWants(items []api.Item, lines []api.Line) []api.Want {
	l := []api.Want{}
	for _, one := range lines {
		parts, err := kit.Parts(items, one.Code, one.Qty)
		for _, p := range parts {
			if one.State == 1 && one.Day > -1 && err == 0 {
				l = append(l, want(p.Item, one.Day, p.Qty))
			}
		}
	}
	return l
}

// plainPromise is what the chapter says may be promised to a line, each day being tried by each code; -1 and no code, if there is nothing.
func plainPromise(s api.State, l api.Line) (int, string) {
	var others []api.Line
	for _, one := range s.Lines {
		if one.Id != l.Id {
			others = append(others, one)
		}
	}
	wants := plainWants(s.Items, others)
	for _, code := range swap.Row(s.Items, l.Item) {
		parts, err := kit.Parts(s.Items, code, l.Qty)
		if err != 0 {
			continue
		}
		for day := max(l.Asked, s.Now); day <= s.Now+400 && day <= 4000; day++ {
			all := slices.Clone(wants)
			for _, p := range parts {
				all = append(all, want(p.Item, day, p.Qty))
			}
			if flow.Fits(s.Lots, all) {
				return day, code
			}
		}
	}
	return -1, ""
}

// plainOne is One as the chapter says it.
func plainOne(s api.State, l api.Line) api.Line {
	if rank.Right(l) && l.State == 1 && s.Now >= 0 && s.Now <= 4000 {
		l.Day, l.Code = plainPromise(s, l)
	}
	return l
}

// plainAll is All as the chapter says it: each open line is put back, and then, the one ahead first, looked at beside all.
func plainAll(s api.State) []api.Line {
	for i, one := range s.Lines {
		for _, other := range s.Lines[:i] {
			if one.Id == other.Id {
				return nil
			}
		}
		if !rank.Right(one) {
			return nil
		}
	}
	if s.Now < 0 || s.Now > 4000 {
		return nil
	}
	s = copied(s)
	for i := range s.Lines {
		if s.Lines[i].State == 1 {
			s.Lines[i].Day, s.Lines[i].Code = -1, ""
		}
	}
	for _, l := range rank.Open(s.Lines) {
		for i := range s.Lines {
			if s.Lines[i].Id == l.Id {
				s.Lines[i] = plainOne(s, s.Lines[i])
			}
		}
	}
	return s.Lines
}

// someLine answers a line by a fixed rule; codes and days are such as may come to be, or not.
func someLine(r *rand.Rand, id, now int) api.Line {
	codes := []string{"A", "B", "C", "K", "L", "M", "Z"}
	l := line(id, codes[r.Intn(len(codes))], 1+int64(r.Intn(5)), now+r.Intn(12)-4, r.Intn(4))
	l.Asked = min(max(l.Asked, 0), 4000)
	switch r.Intn(8) {
	case 0:
		return off(l)
	case 1:
		return shipped(l, min(now+r.Intn(5), 4000), codes[r.Intn(5)])
	case 2, 3:
		return confirmed(l, min(now+r.Intn(8), 4000), codes[r.Intn(5)])
	}
	return l
}

// someState answers a state by a fixed rule: right ones, in which much is promised, and some that are wrong somewhere.
func someState(r *rand.Rand) api.State {
	s := api.State{Now: []int{0, 3, 3, 50, 3600, 3995, 4000}[r.Intn(7)], NextLot: 7, NextLine: 9, Items: goods()}
	for i := range r.Intn(9) {
		from := min(max(s.Now+r.Intn(14)-6, 0), 4000)
		if r.Intn(9) == 0 {
			from = min(s.Now+397+r.Intn(6), 4000)
		}
		l := batch(i+1, []string{"A", "A", "B", "C"}[r.Intn(4)], from, min(from+1+r.Intn(9), 4001), 1+int64(r.Intn(9)))
		l.Arrived = r.Intn(2) == 0
		s.Lots = append(s.Lots, l)
	}
	for i := range r.Intn(9) {
		s.Lines = append(s.Lines, someLine(r, i+1, s.Now))
	}
	r.Shuffle(len(s.Lines), func(a, b int) { s.Lines[a], s.Lines[b] = s.Lines[b], s.Lines[a] })
	return s
}

// spoil makes a state wrong somewhere.
func spoil(r *rand.Rand, s *api.State) {
	switch r.Intn(7) {
	case 0:
		s.Now = edges()[r.Intn(len(edges()))]
	case 1:
		l := unsound()
		s.Items = l[r.Intn(len(l))]
	case 2:
		s.Lots = append(s.Lots, batch(r.Intn(4), "A", r.Intn(9)-1, r.Intn(9), int64(r.Intn(4))))
	case 3:
		l := someLine(r, r.Intn(6), max(min(s.Now, 4000), 0))
		s.Lines = append(s.Lines, l)
	case 4:
		s.Lines = append(s.Lines, confirmed(line(50, "A", 1, 0, 5), edges()[r.Intn(len(edges()))], "A"))
	case 5:
		s.Lines = append(s.Lines, in(line(50, "A", 1, 0, 5), api.LineState(r.Intn(6)), r.Intn(4)-2, "B"))
	case 6:
		s.Items[r.Intn(len(s.Items))].Others = []string{"Z", "B", "", "K"}
	}
}

func TestP10_1AsPlain(t *testing.T) {
	r := rand.New(rand.NewSource(101))
	seen := 0
	for i := range 6000 {
		s := someState(r)
		if i%3 == 0 {
			spoil(r, &s)
		}
		want := plainWants(s.Items, s.Lines)
		if got := Wants(s.Items, s.Lines); !slices.Equal(got, want) {
			t.Fatal("Wants", short(s), got, want)
		}
		seen += len(want)
	}
	if seen < 6000 {
		t.Error("the test tries too little:", seen)
	}
}

func TestP10_2AsPlain(t *testing.T) {
	r := rand.New(rand.NewSource(102))
	own, other, back := 0, 0, 0
	for i := range 1200 {
		s := someState(r)
		// Most states are such that what was wanted already is served, so that there is something to promise.
		if i%4 != 0 {
			s.Lines = plainServed(s)
		}
		if i%5 == 0 {
			spoil(r, &s)
		}
		for _, l := range append(slices.Clone(s.Lines), someLine(r, 60, max(min(s.Now, 4000), 0))) {
			want := plainOne(s, l)
			if got := One(s, l); got != want {
				t.Fatalf("One of %s: %+v, not %+v", short(s, l), got, want)
			}
			switch {
			case l.State != 1:
			case want.Day < 0:
				back++
			case want.Code == want.Item:
				own++
			default:
				other++
			}
		}
	}
	if own < 400 || other < 150 || back < 400 {
		t.Error("the test tries too little:", own, other, back)
	}
}

// plainServed answers the lines of s, of the confirmed ones those that can be served one behind the other, all others put back.
func plainServed(s api.State) []api.Line {
	var l []api.Line
	for _, one := range s.Lines {
		l = append(l, one)
		if !flow.Fits(s.Lots, plainWants(s.Items, l)) {
			l[len(l)-1].Day, l[len(l)-1].Code = -1, ""
		}
	}
	return l
}

func TestP10_3Example(t *testing.T) {
	s := example()
	allSo(t, s, line(1, "A", 4, 0, 5), confirmed(line(2, "A", 2, 0, 1), 3, "A"))
	s.Lots = append(s.Lots, batch(2, "A", 6, 20, 9))
	allSo(t, s, confirmed(line(1, "A", 4, 0, 5), 6, "A"), confirmed(line(2, "A", 2, 0, 1), 3, "A"))
	s.Lines = nil
	allSo(t, s)
	allSo(t, api.State{})
	allSo(t, api.State{Lines: []api.Line{}})
	allSo(t, api.State{Lines: []api.Line{line(1, "A", 1, 0, 0)}}, line(1, "A", 1, 0, 0))
}

// TestP10_3DocExamples: those of DOC.md that are of this layer (2 to 5).
func TestP10_3DocExamples(t *testing.T) {
	items := []api.Item{kept("A", "C"), kept("B"), kept("C"), kitOf("K", part("A", 2), part("B", 1))}
	s := api.State{Items: items, Lots: []api.Lot{batch(1, "A", 3, 9, 5)}, Lines: []api.Line{line(1, "A", 4, 0, 5), line(2, "A", 2, 0, 1)}}
	allSo(t, s, line(1, "A", 4, 0, 5), confirmed(line(2, "A", 2, 0, 1), 3, "A"))
	s = api.State{Items: items, Lots: []api.Lot{batch(1, "A", 0, 9, 5), batch(2, "B", 5, 9, 1)}, Lines: []api.Line{line(1, "K", 1, 0, 5)}}
	allSo(t, s, confirmed(line(1, "K", 1, 0, 5), 5, "K"))
	s = api.State{Items: items, Lots: []api.Lot{batch(1, "C", 0, 9, 5)}, Lines: []api.Line{line(1, "A", 1, 0, 5)}}
	allSo(t, s, confirmed(line(1, "A", 1, 0, 5), 0, "C"))
	s = api.State{Items: items, Lots: []api.Lot{batch(1, "A", 6, 12, 5)}, Lines: []api.Line{confirmed(line(1, "A", 2, 0, 5), 4, "A"), confirmed(line(2, "A", 2, 0, 5), 4, "A"), confirmed(line(3, "A", 3, 0, 1), 4, "A")}}
	allSo(t, s, confirmed(line(1, "A", 2, 0, 5), 6, "A"), line(2, "A", 2, 0, 5), confirmed(line(3, "A", 3, 0, 1), 6, "A"))
}

// TestP10_3AsTheyStand: lines stay where they stand, those that are not open as they are, and they take nothing.
func TestP10_3AsTheyStand(t *testing.T) {
	s := example()
	s.Lines = []api.Line{
		line(7, "A", 3, 0, 9), off(line(2, "A", 2, 0, 0)), confirmed(line(5, "A", 2, 5, 3), 8, "A"), shipped(line(1, "A", 5, 0, 0), 3, "A"), line(4, "A", 3, 0, 3), shipped(line(3, "Z", 5, 0, 0), 4000, "Z"), line(6, "A", 2, 4, 3),
	}
	allSo(t, s,
		line(7, "A", 3, 0, 9), off(line(2, "A", 2, 0, 0)), confirmed(line(5, "A", 2, 5, 3), 5, "A"), shipped(line(1, "A", 5, 0, 0), 3, "A"), confirmed(line(4, "A", 3, 0, 3), 3, "A"), shipped(line(3, "Z", 5, 0, 0), 4000, "Z"), line(6, "A", 2, 4, 3))
}

// TestP10_3PutBackFirst: what was confirmed for one behind is no hindrance to one ahead, nor to the one itself.
func TestP10_3PutBackFirst(t *testing.T) {
	s := example()
	s.Lines = []api.Line{confirmed(line(1, "A", 5, 0, 5), 3, "A"), line(2, "A", 1, 8, 1)}
	allSo(t, s, line(1, "A", 5, 0, 5), confirmed(line(2, "A", 1, 8, 1), 8, "A"))
	// What could never be served is put back as well, and bars none.
	s.Lines = []api.Line{confirmed(line(1, "A", 1<<30, 0, 0), 3, "A"), confirmed(line(2, "Z", 1, 0, 0), 3, "Z"), confirmed(line(3, "A", 5, 0, 9), 4000, "K")}
	allSo(t, s, line(1, "A", 1<<30, 0, 0), line(2, "Z", 1, 0, 0), confirmed(line(3, "A", 5, 0, 9), 3, "A"))
	// Ahead is the one of the lower rank; of one rank the one of the lower Id.
	s.Lines = []api.Line{line(9, "A", 5, 0, 1), line(10, "A", 5, 0, 1), line(1, "A", 5, 0, 2)}
	allSo(t, s, confirmed(line(9, "A", 5, 0, 1), 3, "A"), line(10, "A", 5, 0, 1), line(1, "A", 5, 0, 2))
	s.Lines = []api.Line{line(10, "A", 5, 0, 1), line(9, "A", 5, 0, 1), line(1, "A", 5, 0, 0)}
	allSo(t, s, line(10, "A", 5, 0, 1), line(9, "A", 5, 0, 1), confirmed(line(1, "A", 5, 0, 0), 3, "A"))
}

// TestP10_3OneByOne: a line ahead takes the first day that it can, though a line behind could have been served otherwise, too.
func TestP10_3OneByOne(t *testing.T) {
	s := api.State{Now: 0, Items: []api.Item{kept("A", "B"), kept("B"), kitOf("K", part("A", 1), part("B", 1))}}
	s.Lots = []api.Lot{batch(1, "A", 0, 2, 1), batch(2, "A", 5, 9, 1), batch(3, "B", 5, 9, 1)}
	s.Lines = []api.Line{line(1, "K", 1, 0, 0), line(2, "A", 1, 0, 1), line(3, "A", 1, 0, 2)}
	allSo(t, s, confirmed(line(1, "K", 1, 0, 0), 5, "K"), confirmed(line(2, "A", 1, 0, 1), 0, "A"), line(3, "A", 1, 0, 2))
	s.Lines = []api.Line{line(1, "A", 1, 0, 0), line(2, "A", 1, 0, 1), line(3, "A", 1, 0, 2), line(4, "K", 1, 0, 3)}
	allSo(t, s, confirmed(line(1, "A", 1, 0, 0), 0, "A"), confirmed(line(2, "A", 1, 0, 1), 5, "A"), confirmed(line(3, "A", 1, 0, 2), 5, "B"), line(4, "K", 1, 0, 3))
	// One that can't be is passed by, and takes nothing from those behind it.
	s.Lines = []api.Line{line(1, "A", 2, 0, 0), line(2, "K", 2, 0, 1), line(3, "B", 1, 0, 2)}
	allSo(t, s, line(1, "A", 2, 0, 0), line(2, "K", 2, 0, 1), confirmed(line(3, "B", 1, 0, 2), 5, "B"))
}

// TestP10_3Refused: no lines are told, if one is not right, two have one Id, or there is no such day.
func TestP10_3Refused(t *testing.T) {
	for _, wrong := range []api.Line{
		{}, line(0, "A", 1, 0, 5), line(-1, "A", 1, 0, 5), line(9, "a", 1, 0, 5), line(9, "A", 0, 0, 5), line(9, "A", 1<<30+1, 0, 5), line(9, "A", 1, -1, 5), line(9, "A", 1, 4001, 5), line(9, "A", 1, 0, -1), line(9, "A", 1, 0, 100),
		in(line(9, "A", 1, 0, 5), 0, -1, ""), in(line(9, "A", 1, 0, 5), 4, -1, ""), confirmed(line(9, "A", 1, 0, 5), 4001, "A"), confirmed(line(9, "A", 1, 0, 5), -2, ""), confirmed(line(9, "A", 1, 0, 5), -1, "A"), confirmed(line(9, "A", 1, 0, 5), 5, ""),
		in(line(9, "A", 1, 0, 5), api.LineShipped, -1, ""), in(line(9, "A", 1, 0, 5), api.LineOff, 5, "A"),
		// Of one Id, in whatever state.
		line(1, "A", 1, 0, 5), line(2, "B", 1, 0, 9), off(line(1, "A", 1, 0, 5)), shipped(line(2, "A", 1, 0, 5), 5, "A"), example().Lines[0],
	} {
		for at := range 3 {
			s := example()
			s.Lines = slices.Insert(s.Lines, at, wrong)
			allSo(t, s)
		}
	}
	s := example()
	s.Lines = []api.Line{off(line(1, "A", 1, 0, 5)), line(3, "A", 1, 0, 5), off(line(1, "A", 1, 0, 5))}
	allSo(t, s)
	for _, now := range edges() {
		s := example()
		s.Lots[0].Days = api.Window{From: 0, Until: 4001}
		s.Now = now
		if now < 0 || now > 4000 {
			allSo(t, s)
		} else {
			allSo(t, s, line(1, "A", 4, 0, 5), confirmed(line(2, "A", 2, 0, 1), now, "A"))
		}
	}
	// Nothing else of the state need be right: its next numbers, the items of its lines.
	s = example()
	s.NextLot, s.NextLine = math.MinInt, -5
	allSo(t, s, line(1, "A", 4, 0, 5), confirmed(line(2, "A", 2, 0, 1), 3, "A"))
	for _, items := range unsound() {
		s.Items = items
		allSo(t, s, line(1, "A", 4, 0, 5), line(2, "A", 2, 0, 1))
		s.Lines[1] = confirmed(s.Lines[1], 3, "A")
		allSo(t, s, line(1, "A", 4, 0, 5), line(2, "A", 2, 0, 1))
	}
}

func TestP10_3AsPlain(t *testing.T) {
	r := rand.New(rand.NewSource(103))
	day, back, none := 0, 0, 0
	for i := range 1500 {
		s := someState(r)
		if i%5 == 0 {
			spoil(r, &s)
		}
		want := plainAll(s)
		got := All(s)
		if !slices.Equal(got, want) {
			t.Fatalf("All of %s:\n%+v, not\n%+v", short(s), got, want)
		}
		if len(want) < len(s.Lines) {
			none++
		}
		for _, l := range want {
			if l.State == 1 && l.Day >= 0 {
				day++
			} else if l.State == 1 {
				back++
			}
		}
	}
	if day < 600 || back < 600 || none < 50 {
		t.Error("the test tries too little:", day, back, none)
	}
}

// TestP10_3Many: as many lots and lines as there may be are promised as one by one.
func TestP10_3Many(t *testing.T) {
	s := api.State{Now: 3, Items: goods()}
	for i := range 300 {
		from := 3 + i/30*7
		s.Lots = append(s.Lots, batch(i+1, []string{"A", "B", "C"}[i%3], from, from+10, 1+int64(i%5)))
		s.Lines = append(s.Lines, line(i+1, []string{"A", "B", "C", "K", "L"}[i%5], 1+int64(i%4), i%90, i*7%11))
	}
	got := All(s)
	served := 0
	for place, l := range got {
		beside := copied(s)
		beside.Lines = rank.Ahead(got, l.Id)
		if want := One(beside, s.Lines[place]); l != want {
			t.Fatal("not as one by one", l, want)
		}
		if l.Day >= 0 {
			served++
		}
	}
	if len(got) != 300 || served < 100 || served == 300 {
		t.Error("the test tries too little:", len(got), served)
	}
}

// TestP10_4Served: what may be served can be, behind One; and behind All it always can be.
func TestP10_4Served(t *testing.T) {
	r := rand.New(rand.NewSource(104))
	seen := 0
	for range 2500 {
		s := someState(r)
		all := All(s)
		if !flow.Fits(s.Lots, Wants(s.Items, all)) {
			t.Fatal("behind All there is not enough:", short(s), all)
		}
		s.Lines = plainServed(s)
		for i, l := range s.Lines {
			behind := copied(s)
			behind.Lines[i] = One(s, l)
			if !flow.Fits(behind.Lots, Wants(behind.Items, behind.Lines)) {
				t.Fatal("behind One there is not enough:", short(s), behind.Lines[i])
			}
			seen += len(Wants(s.Items, behind.Lines[i:i+1]))
		}
		more := copied(s)
		more.Lines = append(more.Lines, One(s, someLine(r, 60, s.Now)))
		if !flow.Fits(more.Lots, Wants(more.Items, more.Lines)) {
			t.Fatal("behind One of a new line there is not enough:", short(more))
		}
	}
	if seen < 2000 {
		t.Error("the test tries too little:", seen)
	}
}

// TestP10_4AllOfAll: All of All is itself, nor does it hang on what was confirmed ahead.
func TestP10_4AllOfAll(t *testing.T) {
	r := rand.New(rand.NewSource(105))
	for range 2500 {
		s := someState(r)
		want := All(s)
		again := copied(s)
		again.Lines = slices.Clone(want)
		if got := All(again); !slices.Equal(got, want) {
			t.Fatal("All of All", short(s), got, want)
		}
		for i, l := range again.Lines {
			if l.State == api.LineOpen {
				again.Lines[i].Day, again.Lines[i].Code = -1, ""
			}
		}
		if got := All(again); !slices.Equal(got, want) {
			t.Fatal("All of lines put back", short(s), got, want)
		}
	}
}

// TestP10_4NoneCouldBe: a line that is put back behind All could be confirmed beside those ahead of it by no code that may stand for it, on no day up to the horizon; one that is confirmed could be on no sooner day, nor by a code in front.
func TestP10_4NoneCouldBe(t *testing.T) {
	r := rand.New(rand.NewSource(106))
	back, day := 0, 0
	for range 1500 {
		s := someState(r)
		lines := All(s)
		for _, l := range lines {
			if l.State != api.LineOpen {
				continue
			}
			beside := copied(s)
			beside.Lines = rank.Ahead(lines, l.Id)
			if onDay, code := plainPromise(beside, l); onDay != l.Day || code != l.Code {
				t.Fatal("could be", onDay, code, short(s, l))
			}
			if l.Day < 0 {
				back++
			} else {
				day++
			}
		}
	}
	if back < 500 || day < 500 {
		t.Error("the test tries too little:", back, day)
	}
}

// alike tells whether two states have the same, lists without elements and nil ones being one.
func alike(a, b api.State) bool {
	return fmt.Sprintf("%+q", []any{a}) == fmt.Sprintf("%+q", []any{b})
}

// TestNothingKept holds all calls to DOC.md's R3 and R4: no argument is changed or kept, what is handed out is new, and told alike each time.
func TestNothingKept(t *testing.T) {
	r := rand.New(rand.NewSource(107))
	for i := range 800 {
		s := someState(r)
		if i%4 == 0 {
			spoil(r, &s)
		}
		was := copied(s)
		// Room behind the lines and lots, where nothing may be put.
		s.Lines = append(s.Lines, line(99, "A", 1, 0, 0))[:len(s.Lines)]
		s.Lots = append(s.Lots, batch(99, "A", 0, 9, 1))[:len(s.Lots)]
		l := someLine(r, 60, max(min(s.Now, 4000), 0))
		wants, one, all := Wants(s.Items, s.Lines), One(s, l), All(s)
		if !alike(s, was) || s.Lines[:len(s.Lines)+1][len(s.Lines)] != line(99, "A", 1, 0, 0) || s.Lots[:len(s.Lots)+1][len(s.Lots)] != batch(99, "A", 0, 9, 1) {
			t.Fatal("argument changed", short(was), short(s))
		}
		keptWants, keptAll := slices.Clone(wants), slices.Clone(all)
		clear(wants[:cap(wants)])
		for j := range all[:cap(all)] {
			all[:cap(all)][j] = line(98, "B", 9, 9, 9)
		}
		if !alike(s, was) {
			t.Fatal("answers share with the argument", short(was), short(s))
		}
		if got := Wants(s.Items, s.Lines); !slices.Equal(got, keptWants) {
			t.Fatal("Wants not alike", got, keptWants)
		}
		if got := One(s, l); got != one {
			t.Fatal("One not alike", got, one)
		}
		again := All(s)
		clear(s.Lines)
		clear(s.Lots)
		clear(s.Items)
		if !slices.Equal(again, keptAll) {
			t.Fatal("argument kept, or not answered alike", again, keptAll)
		}
	}
}
