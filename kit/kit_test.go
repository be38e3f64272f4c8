package kit

import (
	"cmp"
	"fmt"
	"math"
	"math/big"
	"math/rand"
	"slices"
	"strings"
	"testing"

	"storeman/api"
)

// top is the greatest amount, written out apart from the program's own.
const top = 1125899906842624

func single(code string) api.Item { return api.Item{Code: code, Life: 1} }

func part(item string, qty int64) api.Part { return api.Part{Item: item, Qty: qty} }

func kit(code string, parts ...api.Part) api.Item { return api.Item{Code: code, Parts: parts} }

// rising answers items by their codes, whatever they are.
func rising(items ...api.Item) []api.Item {
	slices.SortStableFunc(items, func(a, b api.Item) int { return strings.Compare(a.Code, b.Code) })
	return items
}

// example answers the items of the chapter's example.
func example() []api.Item {
	return []api.Item{single("A"), single("B"), kit("K", part("A", 2), part("B", 1)), kit("L", part("K", 3), part("A", 1))}
}

// chain answers so many items, each but the first one a kit of the one ahead.
func chain(many int) []api.Item {
	l := []api.Item{single("C00")}
	for i := 1; i < many; i++ {
		l = append(l, kit(fmt.Sprintf("C%02d", i), part(l[i-1].Code, 1)))
	}
	return l
}

// tiers answers kits of so many others of so many tiers, each having all of the tier below, the lowest ones being kept.
func tiers(deep, wide int, qty int64) []api.Item {
	var l []api.Item
	for d := range deep {
		var parts []api.Part
		for w := range wide {
			parts = append(parts, part(fmt.Sprintf("T%d-%d", d-1, w), qty))
		}
		for w := range wide {
			code := fmt.Sprintf("T%d-%d", d, w)
			if d == 0 {
				l = append(l, single(code))
			} else {
				l = append(l, kit(code, parts...))
			}
		}
	}
	return l
}

// unsound holds that all calls answer as of items with which that is wrong.
func unsound(t *testing.T, about string, items []api.Item, err api.Errno) {
	t.Helper()
	if got := Check(items); got != err {
		t.Errorf("Check of %s: %d, not %d", about, got, err)
	}
	for _, item := range append(slices.Clone(items), single("ZZZ"), single("")) {
		for _, qty := range []int64{1, 0, -1, top, math.MinInt64} {
			if parts, got := Parts(items, item.Code, qty); parts != nil || got != err {
				t.Errorf("Parts of %s: %v, %d, not %d", about, parts, got, err)
			}
		}
		if deep := Deep(items, item.Code); deep != 0 {
			t.Errorf("Deep of %s: %d", about, deep)
		}
		if within := Within(items, item.Code); within != nil {
			t.Errorf("Within of %s: %v", about, within)
		}
	}
}

// isSound holds that items are sound.
func isSound(t *testing.T, about string, items []api.Item) {
	t.Helper()
	if got := Check(items); got != api.OK {
		t.Errorf("Check of %s: %d", about, got)
	}
}

func TestP7_1Example(t *testing.T) {
	isSound(t, "the example", example())
	isSound(t, "none", nil)
	isSound(t, "none", []api.Item{})
	unsound(t, "a kit of itself", []api.Item{kit("K", part("K", 1))}, api.ErrRound)
	unsound(t, "a round", []api.Item{kit("K", part("L", 1)), kit("L", part("K", 1))}, api.ErrRound)
	unsound(t, "Z", []api.Item{kit("K", part("Z", 1))}, api.ErrItem)
	unsound(t, "life 0", []api.Item{{Code: "A"}}, api.ErrShape)
}

func TestP7_1HowMany(t *testing.T) {
	var l []api.Item
	for i := range 61 {
		l = append(l, single(fmt.Sprintf("A%02d", i)))
	}
	isSound(t, "59 items", l[:59])
	isSound(t, "60 items", l[:60])
	unsound(t, "61 items", l, api.ErrLong)
	// That there are too many is told ahead of all else.
	unsound(t, "61 that are none", make([]api.Item, 61), api.ErrLong)
	unsound(t, "60 that are none", make([]api.Item, 60), api.ErrShape)
	l[60] = kit("Z", part("Z", 1))
	unsound(t, "61 with a round", l, api.ErrLong)
	l[60] = kit("Z", part("ZZ", 1))
	unsound(t, "61 with no such part", l, api.ErrLong)
	if got := Check(make([]api.Item, 100000)); got != api.ErrLong {
		t.Error("many:", got)
	}
}

func TestP7_1Codes(t *testing.T) {
	for _, code := range []string{"", "a", "7A", "-A", "A B", "A ", " A", "AÄ", "A\xff", "A\x00", "A_", "ABCDEFGHIJKLM", strings.Repeat("A", 10000)} {
		unsound(t, code, []api.Item{single(code)}, api.ErrShape)
		unsound(t, code, rising(single(code), single("B")), api.ErrShape)
	}
	for _, code := range []string{"A", "Z", "KIT-7", "ABCDEFGHIJKL", "A-", "A--", "A0"} {
		isSound(t, code, []api.Item{single(code)})
	}
	for _, c := range []struct {
		codes []string
		sound bool
	}{
		{[]string{"A", "B", "C"}, true}, {[]string{"A", "A-", "A0", "AA", "AB", "B"}, true}, {[]string{"A", "B10", "B9"}, true},
		{[]string{"B", "A"}, false}, {[]string{"A", "A"}, false}, {[]string{"A", "B", "B"}, false}, {[]string{"A", "C", "B"}, false}, {[]string{"B", "C", "A"}, false},
		{[]string{"A", "B9", "B10"}, false}, {[]string{"A", "AA", "A0"}, false}, {[]string{"B", "AA"}, false}, {[]string{"A", "B", "A"}, false},
	} {
		var l []api.Item
		for _, code := range c.codes {
			l = append(l, single(code))
		}
		if c.sound {
			isSound(t, fmt.Sprint(c.codes), l)
		} else {
			unsound(t, fmt.Sprint(c.codes), l, api.ErrShape)
		}
	}
	// Two of one code, one of which is a kit.
	unsound(t, "two", []api.Item{single("A"), single("B"), kit("B", part("A", 1))}, api.ErrShape)
}

func TestP7_1KeptOrKit(t *testing.T) {
	eight := func(more ...api.Part) []api.Part {
		var l []api.Part
		for i := range 8 - len(more) {
			l = append(l, part(fmt.Sprint("A", i), 1))
		}
		return append(l, more...)
	}
	var base []api.Item
	for i := range 9 {
		base = append(base, single(fmt.Sprint("A", i)))
	}
	for i, c := range []struct {
		life  int
		parts []api.Part
		sound bool
	}{
		{1, nil, true}, {2000, nil, true}, {5, []api.Part{}, true}, {0, eight()[:1], true}, {0, eight(), true}, {0, eight()[3:5], true},
		{0, nil, false}, {0, []api.Part{}, false}, {-1, nil, false}, {2001, nil, false}, {math.MinInt, nil, false}, {math.MaxInt, nil, false},
		{1, eight()[:1], false}, {2000, eight(), false}, {2001, eight()[:1], false}, {-1, eight()[:1], false}, {math.MinInt, eight()[:1], false},
		{0, append(eight(), part("A8", 1)), false}, {0, slices.Repeat(eight(), 100), false},
		{0, []api.Part{part("A0", 1), part("A0", 1)}, false}, {0, []api.Part{part("A0", 1), part("A1", 2), part("A0", 3)}, false}, {0, eight(part("A6", 1), part("A6", 2)), false}, {0, eight(part("A0", 2)), false},
		{0, []api.Part{part("A0", 1<<30)}, true}, {0, []api.Part{part("A0", 1<<30+1)}, false}, {0, []api.Part{part("A0", 0)}, false}, {0, []api.Part{part("A0", -1)}, false},
		{0, []api.Part{part("A0", math.MaxInt64)}, false}, {0, []api.Part{part("A0", math.MinInt64)}, false}, {0, []api.Part{part("A0", 1<<32)}, false}, {0, []api.Part{part("A0", 1<<32+1)}, false},
		{0, eight(part("A8", 1<<30)), true}, {0, eight(part("A8", 1<<30+1)), false}, {0, eight(part("A8", 0)), false}, {0, []api.Part{{}}, false}, {0, []api.Part{part("", 0)}, false},
	} {
		item := api.Item{Code: "M", Life: c.life, Parts: c.parts}
		items := append(slices.Clone(base), item)
		if c.sound {
			isSound(t, fmt.Sprint("item ", i), items)
			isSound(t, fmt.Sprint("item ", i), append(items, single("N")))
		} else {
			unsound(t, fmt.Sprint("item ", i), items, api.ErrShape)
			unsound(t, fmt.Sprint("item ", i), append(items, single("N")), api.ErrShape)
		}
	}
}

func TestP7_1PartsThatThereAre(t *testing.T) {
	for _, code := range []string{"", "Z", "a", "A ", "AA", "K ", "\xff", strings.Repeat("A", 10000)} {
		unsound(t, code, rising(single("A"), kit("K", part(code, 1))), api.ErrItem)
		unsound(t, code, rising(single("A"), kit("K", part("A", 1), part(code, 1))), api.ErrItem)
		unsound(t, code, rising(single("A"), kit("K", part("A", 1)), kit("L", part("K", 1), part(code, 1), part("A", 1))), api.ErrItem)
	}
	// Behind the kit, too, and a kit.
	isSound(t, "behind", []api.Item{kit("A", part("C", 1), part("B", 1)), kit("B", part("C", 1)), single("C")})
}

func TestP7_1Rounds(t *testing.T) {
	unsound(t, "itself beside another", []api.Item{single("A"), kit("K", part("A", 1), part("K", 1))}, api.ErrRound)
	unsound(t, "within a kit", []api.Item{single("A"), kit("K", part("L", 1), part("A", 1)), kit("L", part("A", 1), part("M", 1)), kit("M", part("K", 1))}, api.ErrRound)
	unsound(t, "into a round", []api.Item{kit("K", part("L", 1)), kit("L", part("M", 1)), kit("M", part("L", 1))}, api.ErrRound)
	unsound(t, "into itself", []api.Item{kit("K", part("L", 1)), kit("L", part("L", 1))}, api.ErrRound)
	unsound(t, "one apart", append(example(), kit("X", part("Y", 1)), kit("Y", part("X", 1))), api.ErrRound)
	unsound(t, "the last part", append(tiers(2, 8, 1), kit("X", part("T1-0", 1), part("Y", 1)), kit("Y", part("T1-1", 1), part("X", 1))), api.ErrRound)
	for _, many := range []int{2, 3, 8, 9, 60} {
		l := chain(many)
		l[0] = kit(l[0].Code, part(l[many-1].Code, 1))
		unsound(t, fmt.Sprint("a round of ", many), l, api.ErrRound)
	}
	// What is come to twice is no round.
	isSound(t, "two ways", []api.Item{single("A"), kit("K", part("A", 1)), kit("L", part("A", 1), part("K", 1)), kit("M", part("K", 1), part("L", 1), part("A", 1))})
	isSound(t, "two ways", []api.Item{kit("A", part("B", 1), part("C", 1), part("D", 1)), kit("B", part("D", 1)), kit("C", part("B", 1), part("D", 1)), single("D")})
	isSound(t, "tiers", tiers(7, 8, 1))
}

func TestP7_1Deep(t *testing.T) {
	for many := 1; many <= 60; many++ {
		if many <= 8 {
			isSound(t, fmt.Sprint("a chain of ", many), chain(many))
		} else {
			unsound(t, fmt.Sprint("a chain of ", many), chain(many), api.ErrLong)
		}
	}
	// Whichever of its parts is the deepest one.
	for _, many := range []int{7, 8} {
		l := chain(many)
		for _, last := range [][]api.Part{{part(l[many-1].Code, 1), part("A", 1)}, {part("A", 1), part(l[many-1].Code, 1)}, {part("A", 1), part(l[many-1].Code, 1), part("B", 1)}} {
			items := append(append([]api.Item{single("A"), single("B")}, l...), kit("D", last...))
			if many == 7 {
				isSound(t, "8 deep", items)
			} else {
				unsound(t, "9 deep", items, api.ErrLong)
			}
		}
	}
	// The deepest one first by its code, and the kept one last.
	var l []api.Item
	for i := range 9 {
		l = append(l, kit(fmt.Sprint("A", i), part(fmt.Sprint("A", i+1), 1)))
	}
	unsound(t, "10 deep", append(l, single("A9")), api.ErrLong)
	isSound(t, "8 deep", append(l[2:], single("A9")))
	isSound(t, "8 deep and 60", append(chain(8), tiers(5, 8, 1)...))
	isSound(t, "8 deep in tiers", tiers(8, 7, 1))
	unsound(t, "9 deep in tiers", tiers(9, 6, 1), api.ErrLong)
}

// TestP7_1WhichFirst: of two things that are wrong that one is told which the chapter names first, wherever they stand.
func TestP7_1WhichFirst(t *testing.T) {
	for _, swapped := range []bool{false, true} {
		name := func(a, b string) (string, string) {
			if swapped {
				return b, a
			}
			return a, b
		}
		a, b := name("A", "Z")
		shape := single(a)
		shape.Life = 0
		deep := chain(9)
		unsound(t, "shape and item", rising(shape, kit(b, part("Q", 1))), api.ErrShape)
		unsound(t, "shape and round", rising(shape, kit(b, part(b, 1))), api.ErrShape)
		unsound(t, "shape and deep", rising(append(slices.Clone(deep), shape)...), api.ErrShape)
		unsound(t, "item and round", rising(kit(a, part("Q", 1)), kit(b, part(b, 1))), api.ErrItem)
		unsound(t, "item and round", rising(kit(a, part(b, 1)), kit(b, part(a, 1), part("Q", 1))), api.ErrItem)
		unsound(t, "item and round", rising(kit(a, part(a, 1), part("Q", 1))), api.ErrItem)
		unsound(t, "item and deep", rising(append(slices.Clone(deep), kit(a, part("Q", 1)))...), api.ErrItem)
		unsound(t, "round and deep", rising(append(slices.Clone(deep), kit(a, part(a, 1)))...), api.ErrRound)
		unsound(t, "round and deep", rising(append(slices.Clone(deep), kit(a, part("C08", 1), part(b, 1)), kit(b, part(a, 1)))...), api.ErrRound)
	}
	// A kit of two of one item is none, whether there is that item or not.
	unsound(t, "twice", []api.Item{kit("K", part("Q", 1), part("Q", 1))}, api.ErrShape)
	unsound(t, "twice itself", []api.Item{kit("K", part("K", 1), part("K", 1))}, api.ErrShape)
	unsound(t, "itself of no such quantity", []api.Item{kit("K", part("K", 0))}, api.ErrShape)
}

// TestP7_1Others: what may stand for an item is of another chapter.
func TestP7_1Others(t *testing.T) {
	for _, others := range [][]string{{"B"}, {"Z"}, {"A"}, {"K"}, {""}, {"a", "a"}, {"B", "B", "B", "B", "B", "B"}} {
		items := example()
		for i := range items {
			items[i].Others = others
		}
		isSound(t, fmt.Sprint("others ", others), items)
		if parts, err := Parts(items, "L", 2); err != api.OK || !slices.Equal(parts, []api.Part{part("A", 14), part("B", 6)}) {
			t.Error(others, parts, err)
		}
		if deep, within := Deep(items, "L"), Within(items, "K"); deep != 3 || !slices.Equal(within, []string{"A", "B", "K"}) {
			t.Error(others, deep, within)
		}
	}
}

func TestP7_2Example(t *testing.T) {
	for _, c := range []struct {
		code  string
		qty   int64
		parts []api.Part
		err   api.Errno
	}{
		{"L", 2, []api.Part{part("A", 14), part("B", 6)}, api.OK},
		{"L", 1, []api.Part{part("A", 7), part("B", 3)}, api.OK},
		{"K", 1, []api.Part{part("A", 2), part("B", 1)}, api.OK},
		{"K", 5, []api.Part{part("A", 10), part("B", 5)}, api.OK},
		{"A", 1, []api.Part{part("A", 1)}, api.OK},
		{"B", 9, []api.Part{part("B", 9)}, api.OK},
		{"A", 0, nil, api.ErrArg},
		{"K", top, nil, api.ErrLong},
		{"A", top, []api.Part{part("A", top)}, api.OK},
		{"K", top / 2, []api.Part{part("A", top), part("B", top/2)}, api.OK},
		{"K", top/2 + 1, nil, api.ErrLong},
		{"L", top / 7, []api.Part{part("A", top/7*7), part("B", top/7*3)}, api.OK},
		{"L", top/7 + 1, nil, api.ErrLong},
		{"A", top + 1, nil, api.ErrArg}, {"K", top + 1, nil, api.ErrArg}, {"K", -1, nil, api.ErrArg}, {"K", math.MinInt64, nil, api.ErrArg}, {"K", math.MaxInt64, nil, api.ErrArg},
		{"Z", 1, nil, api.ErrItem}, {"", 1, nil, api.ErrItem}, {"a", 1, nil, api.ErrItem}, {"K ", 1, nil, api.ErrItem}, {"Z", top, nil, api.ErrItem},
		{"Z", 0, nil, api.ErrArg}, {"Z", top + 1, nil, api.ErrArg}, {"", -1, nil, api.ErrArg},
	} {
		if parts, err := Parts(example(), c.code, c.qty); !slices.Equal(parts, c.parts) || err != c.err || err != api.OK && parts != nil {
			t.Error(c, parts, err)
		}
	}
	for _, qty := range []int64{1, top} {
		if parts, err := Parts(nil, "A", qty); parts != nil || err != api.ErrItem {
			t.Error(qty, parts, err)
		}
	}
	if parts, err := Parts(nil, "A", 0); parts != nil || err != api.ErrArg {
		t.Error(parts, err)
	}
}

func TestP7_2WhichFirst(t *testing.T) {
	// What is wrong with the items is told ahead of all else: unsound holds it with wrong quantities, and codes that there aren't.
	for _, err := range []api.Errno{api.ErrLong, api.ErrShape, api.ErrItem, api.ErrRound} {
		items := map[api.Errno][]api.Item{
			api.ErrLong:  chain(9),
			api.ErrShape: {{Code: "A"}},
			api.ErrItem:  {kit("K", part("A", 1))},
			api.ErrRound: {kit("K", part("K", 1))},
		}[err]
		unsound(t, fmt.Sprint("error ", err), items, err)
	}
	l := []api.Item{single("A"), kit("K", part("A", 1<<30))}
	for _, c := range []struct {
		code string
		qty  int64
		err  api.Errno
	}{{"K", 1 << 20, api.OK}, {"K", 1<<20 + 1, api.ErrLong}, {"K", top, api.ErrLong}, {"K", top + 1, api.ErrArg}, {"L", top + 1, api.ErrArg}, {"L", top, api.ErrItem}} {
		if _, err := Parts(l, c.code, c.qty); err != c.err {
			t.Error(c, err)
		}
	}
}

func TestP7_2Amounts(t *testing.T) {
	// Three times 2^30 in one another: 2^90, whose lower bits are nought.
	l := []api.Item{single("A"), kit("K", part("A", 1<<30)), kit("L", part("K", 1<<30)), kit("M", part("L", 1<<30)), kit("N", part("L", 4), part("A", 1))}
	for _, c := range []struct {
		code string
		qty  int64
		a    int64
	}{
		{"K", 1, 1 << 30}, {"K", 1 << 20, top}, {"K", 1<<20 + 1, 0}, {"K", 1 << 34, 0}, {"K", 1 << 35, 0}, {"L", 1, 0}, {"L", 1 << 4, 0}, {"L", 1 << 14, 0}, {"M", 1, 0}, {"N", 1, 0}, {"M", top, 0},
	} {
		parts, err := Parts(l, c.code, c.qty)
		if c.a > 0 && (err != api.OK || !slices.Equal(parts, []api.Part{part("A", c.a)})) || c.a == 0 && (err != api.ErrLong || parts != nil) {
			t.Error(c, parts, err)
		}
	}
	// Each product is an amount, their sum is none.
	l = []api.Item{single("A"), kit("K", part("A", 1<<20)), kit("L", part("A", 1<<20)), kit("M", part("K", 1<<29), part("L", 1<<29)), kit("N", part("M", 1), part("A", 1)), kit("O", part("K", 1<<29), part("L", 1<<29-1), part("A", 1<<20))}
	if parts, err := Parts(l, "M", 1); err != api.OK || !slices.Equal(parts, []api.Part{part("A", top)}) {
		t.Error(parts, err)
	}
	if parts, err := Parts(l, "N", 1); err != api.ErrLong || parts != nil {
		t.Error(parts, err)
	}
	if parts, err := Parts(l, "O", 1); err != api.OK || !slices.Equal(parts, []api.Part{part("A", top)}) {
		t.Error(parts, err)
	}
	// One part's amount is none, whether it stands first or last, another one's are.
	for _, parts := range [][]api.Part{{part("A", 2), part("B", 1)}, {part("B", 1), part("A", 2)}} {
		if l, err := Parts([]api.Item{single("A"), single("B"), kit("K", parts...)}, "K", top/2+1); err != api.ErrLong || l != nil {
			t.Error(l, err)
		}
	}
}

func TestP7_2Order(t *testing.T) {
	// By rising codes as bytes stand, however the parts do.
	items := rising(single("A"), single("A-"), single("A0"), single("AA"), single("B"), single("Z"), kit("K", part("Z", 1), part("AA", 2), part("B", 3)), kit("C", part("A0", 1), part("A", 5), part("K", 1), part("A-", 2), part("Z", 4)))
	if parts, err := Parts(items, "C", 10); err != api.OK || !slices.Equal(parts, []api.Part{part("A", 50), part("A-", 20), part("A0", 10), part("AA", 20), part("B", 30), part("Z", 50)}) {
		t.Error(parts, err)
	}
}

// TestP7_2ManyWays: there are far more ways through these kits than items, and what is in them is told all the same.
func TestP7_2ManyWays(t *testing.T) {
	l := tiers(8, 7, 1)
	for range 200 {
		parts, err := Parts(l, "T7-3", 2)
		if err != api.OK || len(parts) != 7 || parts[6] != part("T0-6", 2*7*7*7*7*7*7) {
			t.Fatal(parts, err)
		}
	}
	if n := len(Within(l, "T7-3")); n != 50 {
		t.Error(n)
	}
	if parts, err := Parts(tiers(7, 8, 64), "T6-0", 1); err != api.ErrLong || parts != nil {
		t.Error(parts, err)
	}
	if parts, err := Parts(tiers(7, 8, 32), "T6-0", 32); err != api.OK || len(parts) != 8 || parts[0].Qty != top {
		t.Error(parts, err)
	}
	if parts, err := Parts(tiers(7, 8, 32), "T6-0", 33); err != api.ErrLong || parts != nil {
		t.Error(parts, err)
	}
}

// someItems answers items by a fixed rule: some kits are of parts that stand behind them, some are within themselves, or of what there is not.
func someItems(r *rand.Rand, wrong bool) []api.Item {
	names := []string{"A", "A-1", "A1", "AB", "B", "C", "D", "E", "F", "KIT-7"}[:1+r.Intn(10)]
	order := r.Perm(len(names))
	items := make([]api.Item, len(names))
	for i, at := range order {
		item := api.Item{Code: names[at], Life: 1 + r.Intn(2000)}
		if i > 0 && r.Intn(3) > 0 {
			item.Life = 0
			// Of those that came ahead in the order, so that there is no round.
			for _, j := range r.Perm(i)[:1+r.Intn(min(i, 4))] {
				item.Parts = append(item.Parts, part(names[order[j]], 1+r.Int63n(4)))
			}
			if r.Intn(6) == 0 {
				item.Parts[0].Qty = 1 << (10 + r.Intn(21))
			}
		}
		items[at] = item
	}
	if !wrong {
		return items
	}
	for range r.Intn(3) {
		if spoilt := &items[r.Intn(len(items))]; len(spoilt.Parts) > 0 {
			spoilt.Parts[r.Intn(len(spoilt.Parts))].Item = append([]string{"", "Q", "a"}, slices.Repeat(names, 2)...)[r.Intn(3+2*len(names))]
		}
	}
	if r.Intn(8) == 0 {
		spoilt := &items[r.Intn(len(items))]
		spoilt.Life = r.Intn(2)
	}
	if r.Intn(8) == 0 {
		items[r.Intn(len(items))].Code = []string{"", "a", "A", "AB", "B"}[r.Intn(5)]
	}
	if r.Intn(8) == 0 {
		items = slices.Concat(items, chain(8+r.Intn(2)))
		slices.SortFunc(items, func(a, b api.Item) int { return cmp.Compare(a.Code, b.Code) })
	}
	return items
}

// plainWithin is a plain other way to what is within an item: codes are put to it till none is new.
func plainWithin(items []api.Item, code string) []string {
	l := []string{code}
	for i := 0; i < len(l); i++ {
		for _, item := range items {
			if item.Code != l[i] {
				continue
			}
			for _, p := range item.Parts {
				if !slices.Contains(l, p.Item) {
					l = append(l, p.Item)
				}
			}
		}
	}
	slices.Sort(l)
	return l
}

// plainCheck is a plain other way to Check, as its words stand.
func plainCheck(items []api.Item) api.Errno {
	if len(items) > 60 {
		return api.ErrLong
	}
	for i, item := range items {
		keeps := item.Life >= 1 && item.Life <= 2000 && len(item.Parts) == 0
		made := item.Life == 0 && len(item.Parts) >= 1 && len(item.Parts) <= 8
		for j, p := range item.Parts {
			for _, q := range item.Parts[:j] {
				made = made && p.Item != q.Item
			}
			made = made && p.Qty >= 1 && p.Qty <= 1<<30
		}
		// What is no code here is so by its first letter alone.
		right := item.Code != "" && item.Code[0] >= 'A' && item.Code[0] <= 'Z'
		if !right || i > 0 && items[i-1].Code >= item.Code || !keeps && !made {
			return api.ErrShape
		}
	}
	all := []api.Part{}
	for _, item := range items {
		all = append(all, item.Parts...)
	}
	for _, p := range all {
		if !slices.ContainsFunc(items, func(item api.Item) bool { return item.Code == p.Item }) {
			return api.ErrItem
		}
	}
	for _, item := range items {
		for _, p := range item.Parts {
			if slices.Contains(plainWithin(items, p.Item), item.Code) {
				return api.ErrRound
			}
		}
	}
	for _, item := range items {
		if plainDeep(items, item.Code) > 8 {
			return api.ErrLong
		}
	}
	return api.OK
}

// plainDeep is a plain other way to Deep, of items without a round.
func plainDeep(items []api.Item, code string) int {
	deepest := 0
	for _, item := range items {
		if item.Code == code {
			for _, p := range item.Parts {
				deepest = max(deepest, plainDeep(items, p.Item))
			}
		}
	}
	return deepest + 1
}

// plainParts puts what is in so many of an item to a row of sums, as the chapter's words stand, with numbers of any size; false, if one on the way is no amount.
func plainParts(items []api.Item, code string, qty *big.Int, sums map[string]*big.Int) bool {
	if qty.Cmp(big.NewInt(top)) > 0 {
		return false
	}
	for _, item := range items {
		if item.Code != code {
			continue
		}
		if len(item.Parts) == 0 {
			if sums[code] == nil {
				sums[code] = new(big.Int)
			}
			return sums[code].Add(sums[code], qty).Cmp(big.NewInt(top)) <= 0
		}
		for _, p := range item.Parts {
			if !plainParts(items, p.Item, new(big.Int).Mul(qty, big.NewInt(p.Qty)), sums) {
				return false
			}
		}
	}
	return true
}

func TestP7_1AsPlain(t *testing.T) {
	r := rand.New(rand.NewSource(71))
	seen := map[api.Errno]int{}
	for range 6000 {
		items := someItems(r, true)
		err := plainCheck(items)
		seen[err]++
		if err == api.OK {
			isSound(t, fmt.Sprint(items), items)
		} else {
			unsound(t, fmt.Sprint(items), items, err)
		}
	}
	for _, err := range []api.Errno{api.OK, api.ErrShape, api.ErrItem, api.ErrRound, api.ErrLong} {
		if seen[err] < 50 {
			t.Error("the test tries too little:", seen)
		}
	}
}

func TestP7_2AsPlain(t *testing.T) {
	r := rand.New(rand.NewSource(72))
	long := 0
	for range 5000 {
		items := someItems(r, false)
		if Check(items) != api.OK {
			continue
		}
		code := items[r.Intn(len(items))].Code
		qty := 1 + r.Int63n(1<<uint(20+r.Intn(31)))
		sums, want, err := map[string]*big.Int{}, []api.Part(nil), api.ErrLong
		if plainParts(items, code, big.NewInt(qty), sums) {
			for item, sum := range sums {
				want = append(want, part(item, sum.Int64()))
			}
			slices.SortFunc(want, func(a, b api.Part) int { return cmp.Compare(a.Item, b.Item) })
			err = api.OK
		} else {
			long++
		}
		if parts, got := Parts(items, code, qty); !slices.Equal(parts, want) || got != err {
			t.Error(items, code, qty, "are", parts, got, "not", want, err)
		}
	}
	if long < 500 || long > 4500 {
		t.Error("the test tries too little:", long)
	}
}

func TestP7_3Example(t *testing.T) {
	for _, c := range []struct {
		code   string
		deep   int
		within []string
	}{
		{"A", 1, []string{"A"}}, {"B", 1, []string{"B"}}, {"K", 2, []string{"A", "B", "K"}}, {"L", 3, []string{"A", "B", "K", "L"}},
		{"Z", 0, nil}, {"", 0, nil}, {"a", 0, nil}, {"K ", 0, nil}, {"\xff", 0, nil},
	} {
		if deep := Deep(example(), c.code); deep != c.deep {
			t.Error("Deep", c.code, deep)
		}
		if within := Within(example(), c.code); !slices.Equal(within, c.within) || c.within == nil && within != nil {
			t.Error("Within", c.code, within)
		}
	}
	if deep, within := Deep(nil, "A"), Within(nil, "A"); deep != 0 || within != nil {
		t.Error(deep, within)
	}
	if deep, within := Deep(nil, ""), Within([]api.Item{}, ""); deep != 0 || within != nil {
		t.Error(deep, within)
	}
}

// TestP7_3NotSound: nothing is told of an item that has nothing to do with what is wrong.
func TestP7_3NotSound(t *testing.T) {
	for _, wrong := range [][]api.Item{{kit("X", part("X", 1))}, {kit("X", part("Q", 1))}, {{Code: "X"}}, {single("A")}, {kit("X", part("Y", 1)), kit("Y", part("X", 1))}} {
		items := append(example(), wrong...)
		if deep, within := Deep(items, "K"), Within(items, "K"); deep != 0 || within != nil {
			t.Error(wrong, deep, within)
		}
	}
}

func TestP7_3Limits(t *testing.T) {
	l := chain(8)
	for i, item := range l {
		if deep := Deep(l, item.Code); deep != i+1 {
			t.Error(i, deep)
		}
		if within := Within(l, item.Code); !slices.Equal(within, codes(l[:i+1])) {
			t.Error(i, within)
		}
	}
	// A kept part and a deep one: the deepest counts, whichever stands first.
	for _, parts := range [][]api.Part{{part("A", 1), part("C05", 1)}, {part("C05", 1), part("A", 1)}, {part("C02", 1), part("C05", 1), part("A", 1)}} {
		items := append(append([]api.Item{single("A")}, l...), kit("D", parts...))
		if deep := Deep(items, "D"); deep != 7 {
			t.Error(parts, deep)
		}
		if within := Within(items, "D"); !slices.Equal(within, []string{"A", "C00", "C01", "C02", "C03", "C04", "C05", "D"}) {
			t.Error(parts, within)
		}
	}
}

func TestP7_3AsPlain(t *testing.T) {
	r := rand.New(rand.NewSource(73))
	for range 5000 {
		items := someItems(r, false)
		if Check(items) != api.OK {
			continue
		}
		for _, item := range items {
			if within := Within(items, item.Code); !slices.Equal(within, plainWithin(items, item.Code)) {
				t.Error(items, item.Code, within)
			}
			if deep := Deep(items, item.Code); deep != plainDeep(items, item.Code) {
				t.Error(items, item.Code, deep)
			}
		}
	}
}

func TestP7_4InTheEnd(t *testing.T) {
	r := rand.New(rand.NewSource(74))
	tried := 0
	for range 5000 {
		items := someItems(r, false)
		for _, item := range items {
			one, err := Parts(items, item.Code, 1)
			if err != api.OK {
				continue
			}
			within := Within(items, item.Code)
			if len(one) == 0 || !slices.Contains(within, item.Code) {
				t.Error(items, item.Code, one, within)
			}
			for _, p := range one {
				at := slices.IndexFunc(items, func(of api.Item) bool { return of.Code == p.Item })
				if at < 0 || items[at].Life < 1 || len(items[at].Parts) > 0 || !slices.Contains(within, p.Item) {
					t.Error(items, item.Code, p, within)
				}
			}
			// In so many of it is as many times what is in one, as long as that is an amount.
			qty, fits := 1+r.Int63n(1<<uint(r.Intn(51))), true
			times := slices.Clone(one)
			for i := range times {
				sum := new(big.Int).Mul(big.NewInt(qty), big.NewInt(times[i].Qty))
				fits = fits && sum.Cmp(big.NewInt(top)) <= 0
				times[i].Qty *= qty
			}
			many, err := Parts(items, item.Code, qty)
			if fits && (err != api.OK || !slices.Equal(many, times)) || !fits && (err != api.ErrLong || many != nil) {
				t.Error(items, item.Code, qty, many, err)
			}
			tried++
		}
	}
	if tried < 5000 {
		t.Error("the test tries too little:", tried)
	}
}

func TestP7_4Deeper(t *testing.T) {
	r := rand.New(rand.NewSource(75))
	tried := 0
	for range 5000 {
		items := someItems(r, false)
		if Check(items) != api.OK {
			continue
		}
		for _, item := range items {
			deep, within := Deep(items, item.Code), Within(items, item.Code)
			if (deep == 1) != (len(item.Parts) == 0) {
				t.Error(items, item.Code, deep)
			}
			for _, p := range item.Parts {
				if deep <= Deep(items, p.Item) {
					t.Error(items, item.Code, p, deep)
				}
				for _, code := range Within(items, p.Item) {
					if code == item.Code || !slices.Contains(within, code) {
						t.Error(items, item.Code, p, code)
					}
				}
				tried++
			}
		}
	}
	if tried < 5000 {
		t.Error("the test tries too little:", tried)
	}
}

// deepClone answers items that share nothing with those.
func deepClone(items []api.Item) []api.Item {
	l := slices.Clone(items)
	for i := range l {
		l[i].Parts, l[i].Others = slices.Clone(l[i].Parts), slices.Clone(l[i].Others)
	}
	return l
}

// TestNothingKept holds all calls to DOC.md's R3 and R4: no argument is changed, what is handed out is new, and told alike each time.
func TestNothingKept(t *testing.T) {
	r := rand.New(rand.NewSource(76))
	for range 2000 {
		items := someItems(r, r.Intn(2) == 0)
		was := fmt.Sprint(items)
		whole, code := deepClone(items), items[r.Intn(len(items))].Code
		// Room behind the lists, where nothing may be put.
		items = append(items, single("Y"))[:len(items)]
		check, deep := Check(items), Deep(items, code)
		parts, err := Parts(items, code, 3)
		within := Within(items, code)
		keptParts, keptWithin := slices.Clone(parts), slices.Clone(within)
		for i := range parts {
			parts[i] = part("Q", -1)
		}
		for i := range within {
			within[i] = "Q"
		}
		if fmt.Sprint(items) != was || items[:len(items)+1][len(items)].Code != "Y" {
			t.Fatal("an argument was changed:", was, items)
		}
		for _, l := range [][]api.Item{items, whole} {
			again, e := Parts(l, code, 3)
			if Check(l) != check || Deep(l, code) != deep || !slices.Equal(again, keptParts) || e != err || !slices.Equal(Within(l, code), keptWithin) {
				t.Fatal("not answered alike:", l, code)
			}
		}
	}
}
