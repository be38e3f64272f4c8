package amount

import (
	"math"
	"math/big"
	"math/rand"
	"slices"
	"strings"
	"testing"

	"storeman/api"
)

// top is the greatest amount, written out apart from the package's own.
const top = 1125899906842624

func part(item string, qty int64) api.Part { return api.Part{Item: item, Qty: qty} }

// edges are numbers at, beside and far from the edges that the chapter names, and such whose sums and products run over 64 bits.
func edges() []int64 {
	return []int64{
		math.MinInt64, math.MinInt64 + 1, -top - 1, -top, -(1 << 32), -2, -1, 0, 1, 2, 3, 5,
		1<<14 + 1, 1<<25 - 1, 1 << 25, 1<<25 + 1, 1 << 32, 1 << 40, 1<<49 - 1, 1 << 49, 1<<49 + 1,
		top / 3, top/3 + 1, top - 1, top, top + 1, 1 << 51, 1 << 62, math.MaxInt64 - top, math.MaxInt64 - 1, math.MaxInt64,
	}
}

// told answers a number of any size as the chapter has it: itself and true, if it and all it was made of are amounts.
func told(made *big.Int, of ...int64) (int64, bool) {
	for _, n := range of {
		if n < 0 || n > top {
			return 0, false
		}
	}
	if made.Sign() < 0 || made.Cmp(big.NewInt(top)) > 0 {
		return 0, false
	}
	return made.Int64(), true
}

func TestP2_1Right(t *testing.T) {
	for _, c := range []struct {
		n    int64
		want bool
	}{
		{0, true}, {1, true}, {1 << 30, true}, {top - 1, true}, {top, true},
		{-1, false}, {-top, false}, {top + 1, false}, {1 << 51, false},
		{math.MinInt64, false}, {math.MaxInt64, false},
	} {
		if got := Right(c.n); got != c.want {
			t.Error("Right", c.n, got)
		}
	}
}

func TestP2_1Add(t *testing.T) {
	for _, c := range []struct {
		a, b, want int64
		ok         bool
	}{
		{0, 0, 0, true},
		{2, 3, 5, true},
		{top, 0, top, true},
		{top - 1, 1, top, true},
		{1 << 49, 1 << 49, top, true},
		{top, 1, 0, false},
		{top, top, 0, false},
		{1 << 49, 1<<49 + 1, 0, false},
		{-1, 5, 0, false},
		{-1, 1, 0, false},
		{-1, -1, 0, false},
		{top + 1, 0, 0, false},
		{top + 1, -1, 0, false},
		{math.MaxInt64, 1, 0, false},
		{math.MaxInt64, math.MaxInt64, 0, false},
		{math.MinInt64, math.MinInt64, 0, false},
		{math.MinInt64, math.MaxInt64, 0, false},
	} {
		for _, p := range [][2]int64{{c.a, c.b}, {c.b, c.a}} {
			if got, ok := Add(p[0], p[1]); got != c.want || ok != c.ok {
				t.Error("Add", p, got, ok)
			}
		}
	}
	for _, a := range edges() {
		for _, b := range edges() {
			want, right := told(new(big.Int).Add(big.NewInt(a), big.NewInt(b)), a, b)
			if got, ok := Add(a, b); got != want || ok != right {
				t.Error("Add", a, b, got, ok)
			}
		}
	}
}

func TestP2_1Times(t *testing.T) {
	for _, c := range []struct {
		a, b, want int64
		ok         bool
	}{
		{0, 0, 0, true},
		{2, 3, 6, true},
		{1 << 25, 1 << 25, top, true},
		{1, top, top, true},
		{0, top, 0, true},
		{2, 1 << 49, top, true},
		{3, top / 3, top - 1, true},
		{3, top/3 + 1, 0, false},
		{2, 1<<49 + 1, 0, false},
		{1<<25 + 1, 1 << 25, 0, false},
		{top, top, 0, false},
		{1 << 32, 1 << 32, 0, false}, // 2^64: 0 in 64 bits
		{1 << 49, 1 << 15, 0, false},
		{0, 1 << 51, 0, false},
		{0, top + 1, 0, false},
		{0, -1, 0, false},
		{-1, -1, 0, false},
		{-1, 5, 0, false},
		{-2, math.MinInt64, 0, false},
		{math.MaxInt64, math.MaxInt64, 0, false},
		{math.MinInt64, math.MinInt64, 0, false},
		{math.MinInt64, -1, 0, false},
	} {
		for _, p := range [][2]int64{{c.a, c.b}, {c.b, c.a}} {
			if got, ok := Times(p[0], p[1]); got != c.want || ok != c.ok {
				t.Error("Times", p, got, ok)
			}
		}
	}
	for _, a := range edges() {
		for _, b := range edges() {
			want, right := told(new(big.Int).Mul(big.NewInt(a), big.NewInt(b)), a, b)
			if got, ok := Times(a, b); got != want || ok != right {
				t.Error("Times", a, b, got, ok)
			}
		}
	}
}

func TestP2_1Sum(t *testing.T) {
	for _, c := range []struct {
		l    []int64
		want int64
		ok   bool
	}{
		{nil, 0, true},
		{[]int64{}, 0, true},
		{[]int64{0}, 0, true},
		{[]int64{7}, 7, true},
		{[]int64{1, 2, 3, 4}, 10, true},
		{[]int64{top}, top, true},
		{[]int64{0, top, 0}, top, true},
		{[]int64{top - 3, 1, 1, 1}, top, true},
		{[]int64{top - 3, 1, 1, 1, 1}, 0, false},
		{[]int64{top, 1}, 0, false},
		{[]int64{top, 1, -1}, 0, false},
		{[]int64{5, -1}, 0, false},
		{[]int64{-1, 5}, 0, false},
		{[]int64{-1}, 0, false},
		{[]int64{top + 1}, 0, false},
		{[]int64{top + 1, -1}, 0, false},
		{[]int64{math.MaxInt64, math.MaxInt64, 2}, 0, false},
		{[]int64{math.MinInt64, math.MinInt64}, 0, false},
	} {
		if got, ok := Sum(c.l...); got != c.want || ok != c.ok {
			t.Error("Sum", c.l, got, ok)
		}
	}
	if got, ok := Sum(); got != 0 || !ok {
		t.Error("Sum of none", got, ok)
	}
}

func TestP2_1SumOfThree(t *testing.T) {
	for _, a := range edges() {
		for _, b := range edges() {
			for _, c := range edges() {
				sum := new(big.Int).Add(big.NewInt(a), big.NewInt(b))
				want, right := told(sum.Add(sum, big.NewInt(c)), a, b, c)
				if got, ok := Sum(a, b, c); got != want || ok != right {
					t.Fatal("Sum", a, b, c, got, ok)
				}
			}
		}
	}
}

// TestP2_1SumOfMany sums so many amounts that their sum would run over 64 bits, and come round to an amount, if it were not looked at on the way.
func TestP2_1SumOfMany(t *testing.T) {
	l := make([]int64, 1<<14)
	for i := range l {
		l[i] = top
	}
	if got, ok := Sum(l...); got != 0 || ok {
		t.Error("Sum of many", got, ok)
	}
	for i := range l {
		l[i] = top >> 14
	}
	if got, ok := Sum(l...); got != top || !ok {
		t.Error("Sum of many", got, ok)
	}
}

func TestP2_2Join(t *testing.T) {
	long := strings.Repeat("A", 1000)
	for i, c := range []struct {
		l    [][]api.Part
		want []api.Part
		ok   bool
	}{
		{nil, nil, true},
		{[][]api.Part{nil, {}, nil}, nil, true},
		{[][]api.Part{{part("B", 2), part("A", 1)}, {part("B", 3)}}, []api.Part{part("A", 1), part("B", 5)}, true},
		{[][]api.Part{{part("A", 4)}}, []api.Part{part("A", 4)}, true},
		{[][]api.Part{{part("A", 4), part("A", 5), part("A", 6)}}, []api.Part{part("A", 15)}, true},
		{[][]api.Part{{part("A", 0)}}, []api.Part{part("A", 0)}, true},
		{[][]api.Part{{part("C", 0), part("B", 2)}, {part("C", 0)}}, []api.Part{part("B", 2), part("C", 0)}, true},
		{[][]api.Part{{part("A", top-1)}, nil, {part("A", 1), part("B", top)}}, []api.Part{part("A", top), part("B", top)}, true},
		{[][]api.Part{{part("A", top)}, {part("A", 0)}}, []api.Part{part("A", top)}, true},
		{[][]api.Part{{part("A", top), part("B", 5)}, {part("A", 1)}}, nil, false},
		{[][]api.Part{{part("A", -1)}}, nil, false},
		{[][]api.Part{{part("A", 5)}, {part("A", -1)}}, nil, false},
		{[][]api.Part{{part("A", -1)}, {part("A", 5)}}, nil, false},
		{[][]api.Part{{part("A", top+1)}}, nil, false},
		{[][]api.Part{{part("B", 1)}, {part("A", math.MinInt64)}}, nil, false},
		{[][]api.Part{{part("A", math.MaxInt64), part("A", math.MaxInt64), part("A", 2)}}, nil, false},
		// Any text is an item here; bytes compare, not letters.
		{[][]api.Part{{part("a", 1), part("B", 2), part("", 3)}, {part("", 4)}}, []api.Part{part("", 7), part("B", 2), part("a", 1)}, true},
		{[][]api.Part{{part("AB", 1), part("B", 2), part("A", 3), part("A\x00", 4)}}, []api.Part{part("A", 3), part("A\x00", 4), part("AB", 1), part("B", 2)}, true},
		{[][]api.Part{{part("\xff", 1), part("é", 2), part("z", 3), part("\xfe", 4)}}, []api.Part{part("z", 3), part("é", 2), part("\xfe", 4), part("\xff", 1)}, true},
		{[][]api.Part{{part("10", 1), part("9", 2), part("A ", 3), part("A", 4)}}, []api.Part{part("10", 1), part("9", 2), part("A", 4), part("A ", 3)}, true},
		{[][]api.Part{{part(long+"B", 1), part(long, 2)}, {part(long, 3)}}, []api.Part{part(long, 5), part(long+"B", 1)}, true},
	} {
		if got, ok := Join(c.l...); !slices.Equal(got, c.want) || ok != c.ok {
			t.Error("Join", i, got, ok)
		}
	}
}

// someParts answers lists of parts by a fixed rule; some have wrong amounts, or such that the sum of an item's may be none.
func someParts(r *rand.Rand) [][]api.Part {
	items := []string{"", "A", "B", "C", "AB", "B-1", "\xff"}
	qtys := []int64{0, 1, 2, 3, 100, 1 << 30, 1 << 48, top / 2, top/2 - 100}
	if r.Intn(8) == 0 {
		qtys = append(qtys, edges()...)
	}
	l := make([][]api.Part, r.Intn(5))
	for i := range l {
		for range r.Intn(4) {
			l[i] = append(l[i], part(items[r.Intn(len(items))], qtys[r.Intn(len(qtys))]))
		}
	}
	return l
}

// joined is a plain other way to Join: each part is put to the one of its item, numbers of any size.
func joined(l [][]api.Part) ([]api.Part, bool) {
	all := slices.Concat(l...)
	slices.SortStableFunc(all, func(a, b api.Part) int { return strings.Compare(a.Item, b.Item) })
	var parts []api.Part
	for len(all) > 0 {
		n := slices.IndexFunc(all, func(p api.Part) bool { return p.Item != all[0].Item })
		if n < 0 {
			n = len(all)
		}
		sum, qtys := new(big.Int), []int64{}
		for _, p := range all[:n] {
			sum.Add(sum, big.NewInt(p.Qty))
			qtys = append(qtys, p.Qty)
		}
		qty, ok := told(sum, qtys...)
		if !ok {
			return nil, false
		}
		parts, all = append(parts, part(all[0].Item, qty)), all[n:]
	}
	return parts, true
}

func TestP2_2JoinOfSome(t *testing.T) {
	r := rand.New(rand.NewSource(1))
	right, wrong := 0, 0
	for range 20000 {
		l := someParts(r)
		want, ok := joined(l)
		if got, told := Join(l...); !slices.Equal(got, want) || told != ok {
			t.Fatal("Join", l, got, told)
		}
		if ok {
			right++
		} else {
			wrong++
		}
	}
	if right < 1000 || wrong < 1000 {
		t.Error("too few of a kind", right, wrong)
	}
}

// TestP2_2JoinOfMany joins so many that to look for each item among all would be felt.
func TestP2_2JoinOfMany(t *testing.T) {
	var l []api.Part
	for i := range 300000 {
		l = append(l, part(string([]byte{byte(i >> 16), byte(i >> 8), byte(i)}), int64(i)))
	}
	back := slices.Clone(l)
	slices.Reverse(back)
	got, ok := Join(back, l)
	for i := range l {
		l[i].Qty *= 2
	}
	if !slices.Equal(got, l) || !ok {
		t.Error("Join of many", len(got), ok)
	}
}

// someAmounts answers numbers by a fixed rule, a few of which are no amounts.
func someAmounts(r *rand.Rand) []int64 {
	l := make([]int64, r.Intn(7))
	for i := range l {
		l[i] = r.Int63n(top/4 + 1)
		if r.Intn(20) == 0 {
			l[i] = edges()[r.Intn(len(edges()))]
		}
	}
	return l
}

func TestP2_3SumInAnyOrder(t *testing.T) {
	r := rand.New(rand.NewSource(2))
	for range 20000 {
		l := someAmounts(r)
		sum, ok := Sum(l...)
		other := slices.Clone(l)
		r.Shuffle(len(other), func(i, j int) { other[i], other[j] = other[j], other[i] })
		if got, told := Sum(other...); got != sum || told != ok {
			t.Fatal("Sum", l, sum, ok, other, got, told)
		}
		// Put together out of two sums: refused just if one of them is, or they together are.
		cut := r.Intn(len(l) + 1)
		a, aOk := Sum(l[:cut]...)
		b, bOk := Sum(l[cut:]...)
		both, bothOk := Add(a, b)
		if !aOk || !bOk {
			both, bothOk = 0, false
		}
		if both != sum || bothOk != ok {
			t.Fatal("Sum", l, sum, ok, "cut at", cut, both, bothOk)
		}
	}
}

func TestP2_3JoinInAnyOrder(t *testing.T) {
	r := rand.New(rand.NewSource(3))
	for range 20000 {
		l := someParts(r)
		parts, ok := Join(l...)
		other := slices.Concat(l...)
		r.Shuffle(len(other), func(i, j int) { other[i], other[j] = other[j], other[i] })
		if got, told := Join(other); !slices.Equal(got, parts) || told != ok {
			t.Fatal("Join", l, parts, ok, other, got, told)
		}
		cut := r.Intn(len(l) + 1)
		a, aOk := Join(l[:cut]...)
		b, bOk := Join(l[cut:]...)
		both, bothOk := Join(b, a)
		if !aOk || !bOk {
			both, bothOk = nil, false
		}
		if !slices.Equal(both, parts) || bothOk != ok {
			t.Fatal("Join", l, parts, ok, "cut at", cut, both, bothOk)
		}
	}
}

func TestP2_3RefusedOfMore(t *testing.T) {
	r := rand.New(rand.NewSource(4))
	refused := 0
	for range 20000 {
		l, more := someAmounts(r), someAmounts(r)
		if _, ok := Sum(l...); !ok {
			refused++
			if got, ok := Sum(slices.Concat(l, more)...); got != 0 || ok {
				t.Fatal("Sum", l, more, got, ok)
			}
			if got, ok := Sum(slices.Concat(more, l)...); got != 0 || ok {
				t.Fatal("Sum", more, l, got, ok)
			}
		}
		p, others := someParts(r), someParts(r)
		if _, ok := Join(p...); !ok {
			refused++
			if got, ok := Join(slices.Concat(p, others)...); got != nil || ok {
				t.Fatal("Join", p, others, got, ok)
			}
			if got, ok := Join(slices.Concat(others, p)...); got != nil || ok {
				t.Fatal("Join", others, p, got, ok)
			}
		}
	}
	if refused < 1000 {
		t.Error("too few refused", refused)
	}
}

// TestNothingKept holds Sum and Join to DOC.md's R3 and R4: no argument is changed, what is handed out is new, and told alike each time.
func TestNothingKept(t *testing.T) {
	n := []int64{3, 1, 2}
	if got, ok := Sum(n...); got != 6 || !ok || !slices.Equal(n, []int64{3, 1, 2}) {
		t.Error("argument changed", n)
	}
	a, b := []api.Part{part("B", 2), part("A", 1)}, []api.Part{part("B", 3)}
	l := [][]api.Part{a, b}
	first, _ := Join(l...)
	want := slices.Clone(first)
	first[0] = part("Z", 9)
	if !slices.Equal(a, []api.Part{part("B", 2), part("A", 1)}) || !slices.Equal(b, []api.Part{part("B", 3)}) || len(l) != 2 {
		t.Error("argument changed", a, b)
	}
	if got, ok := Join(l...); !slices.Equal(got, want) || !ok {
		t.Error("told otherwise", got, ok)
	}
	one := []api.Part{part("A", 1)}
	got, _ := Join(one)
	got[0].Qty = 7
	if one[0].Qty != 1 {
		t.Error("answer is not new memory", one)
	}
}
