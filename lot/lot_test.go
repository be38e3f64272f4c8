package lot

import (
	"math"
	"math/big"
	"math/rand"
	"slices"
	"testing"

	"storeman/api"
)

func lot(id int, item string, from, until int, qty int64) api.Lot {
	return api.Lot{Id: id, Item: item, Days: api.Window{From: from, Until: until}, Qty: qty}
}

func here(l api.Lot) api.Lot {
	l.Arrived = true
	return l
}

// example answers the lots of the chapter's example.
func example() []api.Lot {
	return []api.Lot{here(lot(1, "A", 0, 9, 5)), lot(2, "A", 3, 6, 4), here(lot(3, "B", 0, 6, 2))}
}

// ids answers the Ids of l, as they stand.
func ids(l []api.Lot) []int {
	var all []int
	for _, one := range l {
		all = append(all, one.Id)
	}
	return all
}

// numbered answers l with the place of each in its From, so that each can be told from all others; no call but Right and On asks for it.
func numbered(l []api.Lot) []api.Lot {
	l = slices.Clone(l)
	for i := range l {
		l[i].Days.From = i
	}
	return l
}

// edges are ints at, beside and far from the edges that the chapter names.
func edges() []int {
	return []int{math.MinInt, math.MinInt + 1, -4001, -2, -1, 0, 1, 2, 5, 6, 300, 301, 3999, 4000, 4001, 4002, math.MaxInt - 1, math.MaxInt}
}

// someLots answers lots by a fixed rule, wrong ones among them, many of one Until, some of one Id as well.
func someLots(r *rand.Rand, most int) []api.Lot {
	items := []string{"A", "A", "B", "KIT-7", "", "a"}
	l := make([]api.Lot, r.Intn(most+1))
	for i := range l {
		from := r.Intn(14) - 1
		l[i] = lot(r.Intn(9), items[r.Intn(len(items))], from, from+r.Intn(9)-1, int64(r.Intn(12))-1)
		l[i].Arrived = r.Intn(2) == 0
		switch r.Intn(20) {
		case 0:
			l[i].Days.Until = edges()[r.Intn(len(edges()))]
		case 1:
			l[i].Id = edges()[r.Intn(len(edges()))]
		case 2:
			l[i].Qty = math.MaxInt64 >> r.Intn(40)
		}
	}
	return l
}

func TestP4_1Right(t *testing.T) {
	for _, c := range []struct {
		l    api.Lot
		want bool
	}{
		{lot(1, "A", 0, 9, 5), true},
		{here(lot(1, "A", 0, 9, 5)), true},
		{lot(math.MaxInt, "KIT-7", 0, 4001, 1<<30), true},
		{lot(301, "ABCDEFGHIJKL", 4000, 4001, 1), true},
		{api.Lot{}, false},
		{lot(0, "A", 0, 9, 5), false},
		{lot(-1, "A", 0, 9, 5), false},
		{lot(1, "", 0, 9, 5), false},
		{lot(1, "a", 0, 9, 5), false},
		{lot(1, "7A", 0, 9, 5), false},
		{lot(1, "A ", 0, 9, 5), false},
		{lot(1, "ABCDEFGHIJKLM", 0, 9, 5), false},
		{lot(1, "A", 9, 9, 5), false},
		{lot(1, "A", 0, 0, 5), false},
		{lot(1, "A", 9, 8, 5), false},
		{lot(1, "A", -1, 9, 5), false},
		{lot(1, "A", 0, 4002, 5), false},
		{lot(1, "A", 4001, 4001, 5), false},
		{lot(1, "A", 4001, 4002, 5), false},
		{lot(1, "A", math.MinInt, math.MaxInt, 5), false},
		{lot(1, "A", 0, 9, 0), false},
		{lot(1, "A", 0, 9, -1), false},
		{lot(1, "A", 0, 9, 1<<30+1), false},
		{lot(1, "A", 0, 9, 1<<32+1), false},
		{lot(1, "A", 0, 9, math.MinInt64), false},
		{lot(1, "A", 0, 9, math.MaxInt64), false},
	} {
		if got := Right(c.l); got != c.want {
			t.Error("Right", c.l, got)
		}
	}
}

// TestP4_1RightOfAll puts together edges of all of a lot's fields.
func TestP4_1RightOfAll(t *testing.T) {
	items := map[string]bool{"A": true, "Z9-": true, "ABCDEFGHIJKL": true, "": false, "b": false, "-A": false, "ABCDEFGHIJKLM": false}
	qtys := []int64{math.MinInt64, -1, 0, 1, 2, 1 << 30, 1<<30 + 1, 1 << 31, 1<<32 + 1, 1 << 50, math.MaxInt64}
	for _, id := range []int{math.MinInt, -1, 0, 1, 2, 300, 301, math.MaxInt} {
		for item, code := range items {
			for _, from := range edges() {
				for _, until := range edges() {
					for _, qty := range qtys {
						want := id > 0 && code && from >= 0 && from < until && until <= 4001 && qty > 0 && qty <= 1073741824
						l := lot(id, item, from, until, qty)
						if Right(l) != want || Right(here(l)) != want {
							t.Fatal("Right", l, want)
						}
					}
				}
			}
		}
	}
}

func TestP4_1Compare(t *testing.T) {
	for _, c := range []struct {
		a, b api.Lot
		want int
	}{
		{lot(1, "A", 0, 5, 3), lot(2, "A", 0, 9, 3), -1},
		{lot(2, "A", 0, 5, 3), lot(1, "A", 0, 9, 3), -1},
		{lot(1, "A", 0, 5, 3), lot(2, "A", 0, 5, 3), -1},
		{lot(1, "A", 0, 5, 3), lot(1, "A", 0, 5, 3), 0},
		{lot(9, "A", 0, 5, 3), lot(10, "A", 0, 5, 3), -1},
		// Nothing else is asked of them.
		{lot(1, "B", 4, 5, 7), here(lot(1, "A", 0, 5, 3)), 0},
		{lot(1, "Z", 8, 5, -9), lot(2, "", -3, 5, 3), -1},
		{api.Lot{}, api.Lot{}, 0},
		// What is far apart would run over, if it was subtracted.
		{lot(1, "A", 0, math.MinInt, 3), lot(1, "A", 0, math.MaxInt, 3), -1},
		{lot(1, "A", 0, -5, 3), lot(1, "A", 0, math.MaxInt, 3), -1},
		{lot(math.MinInt, "A", 0, 5, 3), lot(math.MaxInt, "A", 0, 5, 3), -1},
		{lot(math.MinInt, "A", 0, 5, 3), lot(2, "A", 0, 5, 3), -1},
		{lot(math.MaxInt, "A", 0, math.MinInt, 3), lot(math.MinInt, "A", 0, math.MaxInt, 3), -1},
	} {
		if got := Compare(c.a, c.b); got != c.want {
			t.Error("Compare", c.a, c.b, got)
		}
		if got := Compare(c.b, c.a); got != -c.want {
			t.Error("Compare", c.b, c.a, got)
		}
	}
}

// behind tells whether a is used behind b, apart from the package's own ways.
func behind(a, b api.Lot) bool {
	return a.Days.Until > b.Days.Until || a.Days.Until == b.Days.Until && a.Id > b.Id
}

func TestP4_1CompareOfEdges(t *testing.T) {
	var all []api.Lot
	for _, until := range edges() {
		for _, id := range []int{math.MinInt, -1, 0, 1, 2, math.MaxInt} {
			all = append(all, lot(id, "A", 3, until, 4))
		}
	}
	for _, a := range all {
		for _, b := range all {
			want := 0
			if behind(a, b) {
				want = 1
			} else if behind(b, a) {
				want = -1
			}
			if got := Compare(a, b); got != want {
				t.Error("Compare", a, b, got)
			}
		}
	}
}

// sorted is a plain other way to Sort: each lot goes ahead of those that are used behind it, and behind all others.
func sorted(l []api.Lot) []api.Lot {
	var all []api.Lot
	for _, one := range l {
		at := len(all)
		for at > 0 && behind(all[at-1], one) {
			at--
		}
		all = slices.Insert(all, at, one)
	}
	return all
}

func TestP4_1Sort(t *testing.T) {
	if got := Sort(example()); !slices.Equal(ids(got), []int{2, 3, 1}) || !slices.Equal(got, sorted(example())) {
		t.Error("example", got)
	}
	for _, l := range [][]api.Lot{nil, {}} {
		if got := Sort(l); len(got) != 0 {
			t.Error("Sort of none", got)
		}
	}
	one := []api.Lot{lot(-4, "no code", 9, 2, -1)}
	if got := Sort(one); !slices.Equal(got, one) {
		t.Error("Sort of one", got)
	}
	far := []api.Lot{lot(1, "A", 0, math.MaxInt, 1), lot(2, "A", 0, math.MinInt, 1), lot(math.MaxInt, "A", 0, 0, 1), lot(math.MinInt, "A", 0, 0, 1)}
	if got := Sort(far); !slices.Equal(got, []api.Lot{far[1], far[3], far[2], far[0]}) {
		t.Error("Sort of far ones", got)
	}
	r := rand.New(rand.NewSource(1))
	for range 5000 {
		l := numbered(someLots(r, 20))
		if got := Sort(l); !slices.Equal(got, sorted(l)) {
			t.Fatal("Sort", l, got)
		}
	}
}

// TestP4_1SortAsTheyStood sorts so many lots of one Until and one Id that a way that turns them about would be seen.
func TestP4_1SortAsTheyStood(t *testing.T) {
	for _, size := range []int{2, 12, 13, 50, 300, 5000} {
		same := make([]api.Lot, size)
		for i := range same {
			same[i] = lot(7, "A", i, 5, int64(size-i))
		}
		if got := Sort(same); !slices.Equal(got, same) {
			t.Error("turned about", size)
		}
		for i := range same {
			same[i].Days.Until, same[i].Id = i%3, i/3%2
		}
		if got := Sort(same); !slices.Equal(got, sorted(same)) {
			t.Error("turned about, of some", size)
		}
	}
}

func TestP4_2Sweep(t *testing.T) {
	for _, c := range []struct {
		now        int
		left, gone []int
	}{
		{6, []int{1, 2}, []int{3}},
		{5, []int{1, 2, 3}, nil},
		{7, []int{1, 2}, []int{3}},
		{8, []int{1, 2}, []int{3}},
		{9, []int{2}, []int{1, 3}},
		{0, []int{1, 2, 3}, nil},
		{-1, []int{1, 2, 3}, nil},
		{4001, []int{2}, []int{1, 3}},
		{math.MinInt, []int{1, 2, 3}, nil},
		{math.MaxInt, []int{2}, []int{1, 3}},
	} {
		if left, gone := Sweep(example(), c.now); !slices.Equal(ids(left), c.left) || !slices.Equal(ids(gone), c.gone) {
			t.Error("Sweep on", c.now, left, gone)
		}
	}
	for _, l := range [][]api.Lot{nil, {}} {
		if left, gone := Sweep(l, 6); len(left) != 0 || len(gone) != 0 {
			t.Error("Sweep of none", left, gone)
		}
	}
}

// TestP4_2SweepOfWrong sweeps lots that are not right: what is over hangs on nothing but Arrived and Until.
func TestP4_2SweepOfWrong(t *testing.T) {
	for _, until := range edges() {
		for _, now := range edges() {
			for _, l := range []api.Lot{lot(0, "", -9, until, -1), lot(-3, "a", math.MaxInt, until, math.MaxInt64), lot(1, "A", 4, until, 1)} {
				if left, gone := Sweep([]api.Lot{l}, now); len(left) != 1 || left[0] != l || len(gone) != 0 {
					t.Error("Sweep of what has not arrived", l, now, left, gone)
				}
				l = here(l)
				want, rest := []api.Lot{l}, []api.Lot(nil)
				if until <= now {
					want, rest = rest, want
				}
				if left, gone := Sweep([]api.Lot{l}, now); !slices.Equal(left, want) || !slices.Equal(gone, rest) {
					t.Error("Sweep", l, now, left, gone)
				}
			}
		}
	}
}

func TestP4_2Of(t *testing.T) {
	l := append(example(), lot(3, "", -2, 9, -1), lot(4, "a", 0, 0, 0), lot(5, "AB", 0, 9, 1), here(lot(1, "A", 0, 9, 5)), lot(0, "\xff", 0, 9, 1))
	for _, c := range []struct {
		item string
		want []int
	}{
		{"A", []int{1, 2, 1}},
		{"B", []int{3}},
		{"", []int{3}},
		{"a", []int{4}},
		{"AB", []int{5}},
		{"\xff", []int{0}},
		{"C", nil},
		{"b", nil},
		{" A", nil},
		{"A\x00", nil},
		{"\xfe", nil},
		{"\ufffd", nil},
	} {
		got := Of(l, c.item)
		if !slices.Equal(ids(got), c.want) {
			t.Errorf("Of %q %v", c.item, got)
		}
		for _, one := range got {
			if one.Item != c.item || !slices.Contains(l, one) {
				t.Errorf("Of %q %v", c.item, one)
			}
		}
	}
	for _, none := range [][]api.Lot{nil, {}} {
		if got := Of(none, "A"); len(got) != 0 {
			t.Error("Of none", got)
		}
	}
}

// TestP4_2AsTheyStood holds Sweep and Of, of any lots, to be told in the order in which the lots stood, each as it was.
func TestP4_2AsTheyStood(t *testing.T) {
	r := rand.New(rand.NewSource(2))
	for range 5000 {
		l, now := numbered(someLots(r, 20)), r.Intn(16)-2
		var left, gone, of []api.Lot
		for i := range l {
			if l[i].Arrived && l[i].Days.Until <= now {
				gone = append(gone, l[i])
			} else {
				left = append(left, l[i])
			}
			if l[i].Item == "A" {
				of = append(of, l[i])
			}
		}
		if a, b := Sweep(l, now); !slices.Equal(a, left) || !slices.Equal(b, gone) {
			t.Fatal("Sweep", l, now, a, b)
		}
		if got := Of(l, "A"); !slices.Equal(got, of) {
			t.Fatal("Of", l, got)
		}
	}
}

func TestP4_3On(t *testing.T) {
	for _, c := range []struct {
		day  int
		want int64
	}{
		{4, 11}, {9, 0}, {8, 5}, {0, 7}, {2, 7}, {3, 11}, {5, 11}, {6, 5}, {-1, 0}, {4000, 0}, {4001, 0}, {math.MinInt, 0}, {math.MaxInt, 0},
	} {
		if got := On(example(), c.day); got != c.want {
			t.Error("On", c.day, got)
		}
	}
	for _, l := range [][]api.Lot{nil, {}} {
		if got := On(l, 4); got != 0 {
			t.Error("On of none", got)
		}
	}
	last := []api.Lot{lot(1, "A", 4000, 4001, 3), lot(2, "B", 0, 4001, 4)}
	if On(last, 4000) != 7 || On(last, 3999) != 4 || On(last, 4001) != 0 {
		t.Error("On of the last days", On(last, 4000), On(last, 3999), On(last, 4001))
	}
	same := []api.Lot{lot(1, "A", 0, 9, 3), lot(1, "A", 0, 9, 3)}
	if got := On(same, 4); got != 6 {
		t.Error("On of two of one Id", got)
	}
}

// TestP4_3OnOfWrong puts wrong lots beside right ones: they have no day.
func TestP4_3OnOfWrong(t *testing.T) {
	for _, wrong := range []api.Lot{
		lot(0, "A", 0, 9, 5), lot(-1, "A", 0, 9, 5), lot(4, "", 0, 9, 5), lot(4, "a", 0, 9, 5), lot(4, "ABCDEFGHIJKLM", 0, 9, 5),
		lot(4, "A", -1, 9, 5), lot(4, "A", 0, 4002, 5), lot(4, "A", 9, 0, 5), lot(4, "A", 4, 4, 5), lot(4, "A", math.MinInt, math.MaxInt, 5),
		lot(4, "A", 0, 9, 0), lot(4, "A", 0, 9, -1), lot(4, "A", 0, 9, 1<<30+1), lot(4, "A", 0, 9, math.MaxInt64), lot(4, "A", 0, 9, math.MinInt64),
	} {
		for _, l := range [][]api.Lot{append(example(), wrong), append([]api.Lot{wrong, here(wrong)}, example()...)} {
			for day, want := range []int64{7, 7, 7, 11, 11, 11, 5, 5, 5, 0} {
				if got := On(l, day); got != want {
					t.Error("On", wrong, day, got)
				}
			}
		}
	}
}

// TestP4_3OnOfMany sums more than amounts reach to: no limit is named here.
func TestP4_3OnOfMany(t *testing.T) {
	l := make([]api.Lot, 1<<20+1)
	for i := range l {
		l[i] = lot(i+1, "A", 0, 9, 1<<30)
	}
	if got := On(l, 4); got != 1<<50+1<<30 {
		t.Error("On", got)
	}
}

func TestP4_3OnOfSome(t *testing.T) {
	r := rand.New(rand.NewSource(3))
	some := 0
	for range 5000 {
		l := someLots(r, 20)
		for day := -2; day <= 22; day++ {
			want := new(big.Int)
			for _, one := range l {
				right := one.Id >= 1 && (one.Item == "A" || one.Item == "B" || one.Item == "KIT-7") && one.Qty >= 1 && one.Qty <= 1<<30
				if right && one.Days.From >= 0 && one.Days.Until <= 4001 && one.Days.From <= day && day < one.Days.Until {
					want.Add(want, big.NewInt(one.Qty))
				}
			}
			if got := On(l, day); want.Cmp(big.NewInt(got)) != 0 {
				t.Fatal("On", l, day, got, want)
			}
			some += want.Sign()
		}
	}
	if some < 10000 {
		t.Error("too few days with some", some)
	}
}

func TestP4_4SortedIsSorted(t *testing.T) {
	r := rand.New(rand.NewSource(4))
	for range 5000 {
		l := numbered(someLots(r, 20))
		one := Sort(l)
		if !slices.Equal(Sort(one), one) || len(one) != len(l) {
			t.Fatal("sorted again", l, one, Sort(one))
		}
		for i := range one {
			if !slices.Contains(l, one[i]) || i > 0 && Compare(one[i-1], one[i]) > 0 {
				t.Fatal("sorted", l, one)
			}
		}
	}
}

func TestP4_4SweptIsSwept(t *testing.T) {
	r := rand.New(rand.NewSource(5))
	for range 5000 {
		l, now := numbered(someLots(r, 20)), r.Intn(16)-2
		left, gone := Sweep(l, now)
		// From is the place at which each one stood.
		place := func(a, b api.Lot) int { return a.Days.From - b.Days.From }
		if all := slices.SortedFunc(slices.Values(slices.Concat(left, gone)), place); !slices.Equal(all, l) {
			t.Fatal("lost in a sweep", l, now, left, gone)
		}
		if again, more := Sweep(left, now); !slices.Equal(again, left) || len(more) != 0 {
			t.Fatal("swept again", left, now, again, more)
		}
		if again, more := Sweep(gone, now); len(again) != 0 || !slices.Equal(more, gone) {
			t.Fatal("gone, and back", gone, now, again, more)
		}
		_, sooner := Sweep(l, now-1-r.Intn(5))
		for _, one := range sooner {
			if !slices.Contains(gone, one) {
				t.Fatal("gone on an earlier day", one, now, gone)
			}
		}
	}
}

func TestP4_4OnIsTheSumOverItems(t *testing.T) {
	r := rand.New(rand.NewSource(6))
	for range 5000 {
		l, day := someLots(r, 20), r.Intn(22)
		sum := int64(0)
		for _, item := range []string{"A", "B", "KIT-7", "", "a"} {
			sum += On(Of(l, item), day)
		}
		if got := On(l, day); got != sum || got != On(Sort(l), day) {
			t.Fatal("On", l, day, got, sum)
		}
	}
}

// TestNothingKept holds all calls to DOC.md's R3 and R4: no argument is changed or kept, what is handed out is new, and told alike each time.
func TestNothingKept(t *testing.T) {
	calls := func(l []api.Lot) [][]api.Lot {
		left, gone := Sweep(l, 6)
		all, none := Sweep(l, 0)
		return [][]api.Lot{Sort(l), Sort(Sort(l)), left, gone, all, none, Of(l, "A"), Of(l, "Z")}
	}
	l := example()
	first, want := calls(l), calls(l)
	if !slices.Equal(l, example()) {
		t.Error("argument changed", l)
	}
	// Each answer is written over, to its capacity, and seen to turn neither the lots nor any other answer.
	for i := range first {
		whole := first[i][:cap(first[i])]
		for j := range whole {
			whole[j] = lot(99, "Z", 1, 2, 3)
		}
		for j := i + 1; j < len(first); j++ {
			if !slices.Equal(first[j], want[j]) {
				t.Error("two answers share", i, j, first[j])
			}
		}
	}
	for i, got := range calls(l) {
		if !slices.Equal(l, example()) || !slices.Equal(got, want[i]) {
			t.Error("answer is not new memory", i, got)
		}
	}
	second := calls(l)
	clear(l)
	for i, got := range second {
		if !slices.Equal(got, want[i]) {
			t.Error("argument kept", i, got)
		}
	}
}

// TestNothingShared asks for all of longer lists as well, whose slices have room behind them.
func TestNothingShared(t *testing.T) {
	l := slices.Grow(example(), 100)
	for _, got := range [][]api.Lot{Sort(l), Of(l[:1], "A"), Of(l[:2], "A")} {
		_ = append(got, lot(99, "Z", 1, 2, 3))
		got[0] = lot(98, "Z", 1, 2, 3)
		if !slices.Equal(l, example()) {
			t.Fatal("argument changed", l)
		}
	}
	if behind := l[len(l):cap(l)]; slices.ContainsFunc(behind, func(one api.Lot) bool { return one != api.Lot{} }) {
		t.Error("written behind the argument")
	}
}
