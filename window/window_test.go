package window

import (
	"math"
	"math/rand"
	"slices"
	"testing"

	"storeman/api"
)

func win(from, until int) api.Window { return api.Window{From: from, Until: until} }

// edges are ints at, beside and far from the edges that the chapter names.
func edges() []int {
	return []int{math.MinInt, math.MinInt + 1, -2, -1, 0, 1, 2, 3, 5, 9, 3999, 4000, 4001, 4002, 4003, math.MaxInt - 1, math.MaxInt}
}

// daysOf is a plain other way to a window's days: each day there is, held against it.
func daysOf(w api.Window) []int {
	var l []int
	if w.From < 0 || w.Until < w.From || w.Until > 4001 {
		return nil
	}
	for day := 0; day <= 4000; day++ {
		if day >= w.From && day < w.Until {
			l = append(l, day)
		}
	}
	return l
}

func TestP1_1Right(t *testing.T) {
	for _, c := range []struct {
		w    api.Window
		want bool
	}{
		{win(3, 5), true},
		{win(0, 0), true},
		{win(0, 4001), true},
		{win(4000, 4001), true},
		{win(4001, 4001), true},
		{win(3, 3), true},
		{win(5, 3), false},
		{win(-1, 4), false},
		{win(-1, -1), false},
		{win(0, 4002), false},
		{win(4002, 4002), false},
		{win(4001, 4000), false},
		{win(math.MinInt, math.MaxInt), false},
		{win(math.MaxInt, math.MinInt), false},
		{win(math.MaxInt, math.MaxInt), false},
		{win(0, math.MinInt), false},
	} {
		if got := Right(c.w); got != c.want {
			t.Error("Right", c.w, got)
		}
	}
	for _, from := range edges() {
		for _, until := range edges() {
			want := from >= 0 && until >= from && until <= 4001
			if got := Right(win(from, until)); got != want {
				t.Error("Right", from, until, got)
			}
		}
	}
}

func TestP1_1Has(t *testing.T) {
	for _, c := range []struct {
		w    api.Window
		day  int
		want bool
	}{
		{win(3, 5), 2, false},
		{win(3, 5), 3, true},
		{win(3, 5), 4, true},
		{win(3, 5), 5, false},
		{win(3, 3), 3, false},
		{win(0, 4001), 0, true},
		{win(0, 4001), 4000, true},
		{win(0, 4001), 4001, false},
		{win(0, 4001), -1, false},
		{win(-1, 9), 4, false},
		{win(0, 4002), 4, false},
		{win(9, 3), 5, false},
		{win(0, 4001), math.MinInt, false},
		{win(0, 4001), math.MaxInt, false},
	} {
		if got := Has(c.w, c.day); got != c.want {
			t.Error("Has", c.w, c.day, got)
		}
	}
	for _, from := range edges() {
		for _, until := range edges() {
			w := win(from, until)
			days := daysOf(w)
			for _, day := range edges() {
				if got := Has(w, day); got != slices.Contains(days, day) {
					t.Error("Has", w, day, got)
				}
			}
		}
	}
}

func TestP1_2Meet(t *testing.T) {
	for _, c := range []struct {
		a, b, want api.Window
		ok         bool
	}{
		{win(3, 5), win(5, 7), win(0, 0), false},
		{win(3, 6), win(5, 7), win(5, 6), true},
		{win(3, 5), win(3, 5), win(3, 5), true},
		{win(0, 9), win(2, 3), win(2, 3), true},
		{win(0, 4001), win(4000, 4001), win(4000, 4001), true},
		{win(0, 4), win(6, 9), win(0, 0), false},
		{win(3, 3), win(0, 9), win(0, 0), false},
		{win(3, 3), win(3, 3), win(0, 0), false},
		{win(4001, 4001), win(0, 4001), win(0, 0), false},
		{win(-1, 4), win(0, 9), win(0, 0), false},
		{win(2, 4002), win(0, 9), win(0, 0), false},
		{win(6, 4), win(0, 9), win(0, 0), false},
		{win(math.MinInt, math.MaxInt), win(0, 9), win(0, 0), false},
	} {
		for _, p := range [][2]api.Window{{c.a, c.b}, {c.b, c.a}} {
			if got, ok := Meet(p[0], p[1]); got != c.want || ok != c.ok {
				t.Error("Meet", p, got, ok)
			}
		}
	}
}

// TestP1_2MeetOfSmall holds Meet against the days that both have, for all pairs of small windows, wrong ones among them.
func TestP1_2MeetOfSmall(t *testing.T) {
	var all []api.Window
	for from := -1; from <= 5; from++ {
		for until := -1; until <= 5; until++ {
			all = append(all, win(from, until))
		}
	}
	days := map[api.Window][]int{}
	for _, w := range all {
		days[w] = daysOf(w)
	}
	for _, a := range all {
		for _, b := range all {
			var both []int
			for _, day := range days[a] {
				if slices.Contains(days[b], day) {
					both = append(both, day)
				}
			}
			got, ok := Meet(a, b)
			if ok != (both != nil) || !slices.Equal(daysOf(got), both) || !ok && got != win(0, 0) {
				t.Error("Meet", a, b, got, ok)
			}
		}
	}
}

func TestP1_2From(t *testing.T) {
	for _, c := range []struct {
		w    api.Window
		day  int
		want api.Window
		ok   bool
	}{
		{win(3, 5), 4, win(4, 5), true},
		{win(3, 5), 3, win(3, 5), true},
		{win(3, 5), 0, win(3, 5), true},
		{win(3, 5), -9, win(3, 5), true},
		{win(3, 5), math.MinInt, win(3, 5), true},
		{win(3, 5), 5, win(0, 0), false},
		{win(3, 5), 6, win(0, 0), false},
		{win(3, 5), math.MaxInt, win(0, 0), false},
		{win(3, 3), 0, win(0, 0), false},
		{win(0, 4001), 4000, win(4000, 4001), true},
		{win(0, 4001), 4001, win(0, 0), false},
		{win(-1, 5), 2, win(0, 0), false},
		{win(0, 4002), 2, win(0, 0), false},
		{win(5, 3), 1, win(0, 0), false},
		{win(math.MinInt, 5), math.MinInt, win(0, 0), false},
	} {
		if got, ok := From(c.w, c.day); got != c.want || ok != c.ok {
			t.Error("From", c.w, c.day, got, ok)
		}
	}
}

func TestP1_3RowsAndCount(t *testing.T) {
	for i, c := range []struct {
		l, want []api.Window
		count   int
	}{
		{nil, nil, 0},
		{[]api.Window{}, nil, 0},
		{[]api.Window{win(3, 5), win(5, 7), win(9, 9), win(1, 4)}, []api.Window{win(1, 7)}, 6},
		{[]api.Window{win(3, 5), win(6, 7)}, []api.Window{win(3, 5), win(6, 7)}, 3},
		{[]api.Window{win(3, 5), win(5, 7)}, []api.Window{win(3, 7)}, 4},
		{[]api.Window{win(7, 8), win(7, 8), win(2, 3)}, []api.Window{win(2, 3), win(7, 8)}, 2},
		{[]api.Window{win(0, 9), win(2, 3), win(4, 6)}, []api.Window{win(0, 9)}, 9},
		{[]api.Window{win(4, 4)}, nil, 0},
		{[]api.Window{win(4001, 4001), win(0, 0)}, nil, 0},
		{[]api.Window{win(3, 5), win(5, 5), win(6, 8)}, []api.Window{win(3, 5), win(6, 8)}, 4},
		{[]api.Window{win(0, 4001)}, []api.Window{win(0, 4001)}, 4001},
		{[]api.Window{win(0, 1), win(4000, 4001)}, []api.Window{win(0, 1), win(4000, 4001)}, 2},
		{[]api.Window{win(3, 5), win(5, 4)}, nil, 0},
		{[]api.Window{win(5, 4), win(3, 5)}, nil, 0},
		{[]api.Window{win(3, 5), win(-1, 4)}, nil, 0},
		{[]api.Window{win(3, 5), win(3, 4002)}, nil, 0},
		{[]api.Window{win(3, 5), win(4002, 4002)}, nil, 0},
		{[]api.Window{win(3, 5), win(-1, -1)}, nil, 0},
		{[]api.Window{win(math.MinInt, math.MaxInt)}, nil, 0},
		{[]api.Window{win(math.MaxInt, math.MinInt)}, nil, 0},
	} {
		if rows := Rows(c.l); !slices.Equal(rows, c.want) {
			t.Error("Rows", i, rows)
		}
		if count := Count(c.l); count != c.count {
			t.Error("Count", i, count)
		}
	}
}

func TestP1_3EachDay(t *testing.T) {
	var l, even []api.Window
	for day := 4000; day >= 0; day-- {
		l = append(l, win(day, day+1))
		if day%2 == 0 {
			even = append(even, win(day, day+1))
		}
	}
	if rows := Rows(l); !slices.Equal(rows, []api.Window{win(0, 4001)}) || Count(l) != 4001 {
		t.Error("all days", rows, Count(l))
	}
	slices.Reverse(even)
	if rows := Rows(even); !slices.Equal(rows, even) || Count(even) != 2001 {
		t.Error("even days", rows, Count(even))
	}
}

// TestP1_3ManyWide asks for rows of so many wide windows that to go through all their days would be felt.
func TestP1_3ManyWide(t *testing.T) {
	l := make([]api.Window, 1000000)
	for i := range l {
		l[i] = win(i%7, 4001-i%5)
	}
	if rows := Rows(l); !slices.Equal(rows, []api.Window{win(0, 4001)}) || Count(l) != 4001 {
		t.Error(rows, Count(l))
	}
}

// someWindows answers right windows by a fixed rule; most are short, so that there are gaps between them.
func someWindows(r *rand.Rand) []api.Window {
	l := make([]api.Window, r.Intn(12))
	for i := range l {
		reach := []int{4001, 30, 4}[r.Intn(3)]
		from := r.Intn(4002)
		if r.Intn(2) == 0 {
			from = r.Intn(25)
		}
		l[i] = win(from, min(4001, from+r.Intn(reach)))
	}
	return l
}

func TestP1_4RowsAreTheDays(t *testing.T) {
	r := rand.New(rand.NewSource(1))
	for range 2000 {
		l := someWindows(r)
		rows, count := Rows(l), 0
		for day := -1; day <= 4001; day++ {
			has := func(w api.Window) bool { return w.From <= day && day < w.Until }
			if slices.ContainsFunc(rows, has) != slices.ContainsFunc(l, has) {
				t.Fatal("day", day, "of", l, rows)
			}
			if slices.ContainsFunc(l, has) {
				count++
			}
		}
		if Count(l) != count || Count(rows) != count {
			t.Fatal("count of", l, Count(l), Count(rows), count)
		}
		for i, w := range rows {
			if !Right(w) || w.From == w.Until || i > 0 && w.From <= rows[i-1].Until {
				t.Fatal("rows of", l, rows)
			}
		}
	}
}

func TestP1_4RowsOfRows(t *testing.T) {
	r := rand.New(rand.NewSource(2))
	for range 2000 {
		l := someWindows(r)
		if rows := Rows(l); !slices.Equal(Rows(rows), rows) {
			t.Fatal("rows of rows of", l, rows, Rows(rows))
		}
	}
}

// TestNothingKept holds Rows and Count to DOC.md's R3 and R4: no argument is changed, what is handed out is new, and told alike each time.
func TestNothingKept(t *testing.T) {
	l := []api.Window{win(6, 8), win(1, 3)}
	before := slices.Clone(l)
	first := Rows(l)
	if Count(l) != 4 || !slices.Equal(l, before) {
		t.Error("argument changed", l)
	}
	want := slices.Clone(first)
	first[0] = win(100, 200)
	if !slices.Equal(l, before) || !slices.Equal(Rows(l), want) {
		t.Error("answer is not new memory", l, Rows(l))
	}
}
