package swap

import (
	"fmt"
	"math"
	"math/rand"
	"slices"
	"strings"
	"testing"

	"storeman/api"
	"storeman/kit"
)

func kept(code string, others ...string) api.Item {
	return api.Item{Code: code, Life: 5, Others: others}
}

// made answers a kit of one of a part.
func made(code, part string, others ...string) api.Item {
	return api.Item{Code: code, Parts: []api.Part{{Item: part, Qty: 1}}, Others: others}
}

// example answers the items of the chapter's example.
func example() []api.Item {
	return []api.Item{kept("A", "C", "B"), kept("B"), kept("C")}
}

// many answers so many items that are kept, by rising codes.
func many(n int) []api.Item {
	var l []api.Item
	for i := range n {
		l = append(l, kept(fmt.Sprintf("A%02d", i)))
	}
	return l
}

// checked holds that Check tells so of items.
func checked(t *testing.T, about string, items []api.Item, want api.Errno) {
	t.Helper()
	if got := Check(items); got != want {
		t.Errorf("Check of %s: %d, not %d", about, got, want)
	}
}

// rowed holds that the row of a code is that one; and where it is none, that it is nil.
func rowed(t *testing.T, items []api.Item, code string, want ...string) {
	t.Helper()
	if got := Row(items, code); !slices.Equal(got, want) || len(want) == 0 && got != nil {
		t.Errorf("Row of %q: %q, not %q", code, got, want)
	}
}

func TestP8_1Example(t *testing.T) {
	checked(t, "the example", example(), api.OK)
	checked(t, "none", nil, api.OK)
	checked(t, "none", []api.Item{}, api.OK)
	checked(t, "A of A", []api.Item{kept("A", "A"), kept("B")}, api.ErrShape)
	checked(t, "B, B of A", []api.Item{kept("A", "B", "B"), kept("B")}, api.ErrShape)
	checked(t, "Z of A", []api.Item{kept("A", "Z"), kept("B")}, api.ErrItem)
}

func TestP8_1HowMany(t *testing.T) {
	items := many(60)
	for n := range 10 {
		want := api.OK
		if n > 4 {
			want = api.ErrShape
		}
		for _, at := range []int{0, 1, 30, 58, 59} {
			l := slices.Clone(items)
			for i := range n {
				l[at].Others = append(l[at].Others, l[(at+i+1)%60].Code)
			}
			checked(t, fmt.Sprint(n, " others of ", at), l, want)
		}
	}
	// Four of each item, and then five of one.
	for at := range items {
		for i := range 4 {
			items[at].Others = append(items[at].Others, items[(at+7*i+1)%60].Code)
		}
	}
	checked(t, "four of each", items, api.OK)
	items[59].Others = append(items[59].Others, items[58].Code)
	checked(t, "five of the last one", items, api.ErrShape)
	// A long list is of no shape, whatever stands in it.
	for _, code := range []string{"A", "B", "Z", ""} {
		checked(t, "a long list", []api.Item{kept("A", slices.Repeat([]string{code}, 1<<20)...), kept("B")}, api.ErrShape)
	}
}

func TestP8_1Alike(t *testing.T) {
	for _, c := range []struct {
		others []string
		want   api.Errno
	}{
		{nil, api.OK}, {[]string{}, api.OK}, {[]string{"B"}, api.OK}, {[]string{"D", "C", "B", "E"}, api.OK}, {[]string{"E", "B"}, api.OK},
		{[]string{"A"}, api.ErrShape}, {[]string{"A", "B"}, api.ErrShape}, {[]string{"B", "A"}, api.ErrShape}, {[]string{"B", "C", "A", "D"}, api.ErrShape}, {[]string{"B", "C", "D", "A"}, api.ErrShape}, {[]string{"A", "A"}, api.ErrShape},
		{[]string{"B", "B"}, api.ErrShape}, {[]string{"B", "C", "B"}, api.ErrShape}, {[]string{"C", "B", "B"}, api.ErrShape}, {[]string{"B", "B", "C"}, api.ErrShape}, {[]string{"C", "D", "E", "C"}, api.ErrShape}, {[]string{"C", "D", "D", "E"}, api.ErrShape}, {[]string{"B", "C", "D", "D"}, api.ErrShape},
	} {
		checked(t, fmt.Sprint(c.others), []api.Item{kept("A", c.others...), kept("B"), kept("C"), kept("D"), kept("E")}, c.want)
		// Of the last item, too, with the codes the other way round.
		turned := map[string]string{"A": "E", "B": "D", "C": "C", "D": "B", "E": "A"}
		l := []api.Item{kept("A"), kept("B"), kept("C"), kept("D"), kept("E")}
		for _, code := range c.others {
			l[4].Others = append(l[4].Others, turned[code])
		}
		checked(t, fmt.Sprint(l), l, c.want)
	}
	// What another item has for others is no matter of this one.
	checked(t, "the same others", []api.Item{kept("A", "B", "C"), kept("B", "A", "C"), kept("C", "B", "A")}, api.OK)
}

func TestP8_1CodesThatThereAreNot(t *testing.T) {
	for _, code := range []string{"", "Z", "AA", "B0", "a", "b", "A ", " A", "B\x00", "\xff", "Ä", strings.Repeat("B", 13), strings.Repeat("B", 10000)} {
		for _, others := range [][]string{{code}, {"B", code}, {code, "B"}, {"B", "C", "D", code}, {"B", code, "C", "D"}} {
			for at := range 4 {
				l := []api.Item{kept("A"), kept("B"), kept("C"), kept("D")}
				l[at].Others = slices.DeleteFunc(slices.Clone(others), func(other string) bool { return other == l[at].Code })
				checked(t, fmt.Sprintf("%q beside others of %s", code, l[at].Code), l, api.ErrItem)
			}
		}
		// Two of them are of no shape.
		checked(t, fmt.Sprintf("two of %q", code), []api.Item{kept("A", code, code)}, api.ErrShape)
		checked(t, fmt.Sprintf("two of %q", code), []api.Item{kept("A", "B", code, "C", code), kept("B"), kept("C")}, api.ErrShape)
	}
	// A part's code that is none of theirs is no other one: kits and their parts are items.
	checked(t, "a part", []api.Item{kept("A", "K"), made("K", "A")}, api.OK)
}

// TestP8_1InOrder: kit.Check's errors stand ahead, then ErrShape of any item, then ErrItem of any.
func TestP8_1InOrder(t *testing.T) {
	deep := []api.Item{kept("C0")}
	for i := range 8 {
		deep = append(deep, made(fmt.Sprint("C", i+1), deep[i].Code))
	}
	for _, c := range []struct {
		about string
		items []api.Item
		want  api.Errno
	}{
		{"61 items", many(61), api.ErrLong}, {"life 0", []api.Item{{Code: "A"}, kept("B")}, api.ErrShape}, {"no code", []api.Item{kept("a"), kept("b")}, api.ErrShape},
		{"codes that don't rise", []api.Item{kept("B"), kept("A")}, api.ErrShape}, {"two of one code", []api.Item{kept("A"), kept("A")}, api.ErrShape},
		{"no such part", []api.Item{kept("A"), made("K", "Z")}, api.ErrItem}, {"a round", []api.Item{made("K", "L"), made("L", "K")}, api.ErrRound},
		{"too deep", deep, api.ErrLong}, {"sound", []api.Item{kept("A"), kept("B")}, api.OK},
	} {
		checked(t, c.about, c.items, c.want)
		first, last := c.items[0].Code, c.items[1].Code
		for _, others := range [][2][]string{{{first}, nil}, {{last, last}, nil}, {nil, {last}}, {{"Z"}, nil}, {nil, {"Z"}}, {{"", "", "Z"}, {"Z"}}, {{"Z"}, {last}}, {{last}, {first}}} {
			l := slices.Clone(c.items)
			l[0].Others, l[1].Others = others[0], others[1]
			want := c.want
			if want == api.OK {
				want = plainCheck(l)
			}
			checked(t, fmt.Sprint(c.about, " with the others ", others), l, want)
		}
	}
	// Shapes of items behind one with a code that there is not, and of the same item.
	for _, l := range [][]api.Item{
		{kept("A", "Z"), kept("B", "B")}, {kept("A", "Z"), kept("B"), kept("C", "A", "A")}, {kept("A", "A"), kept("B", "Z")},
		{kept("A", "Z", "A")}, {kept("A", "Z", "B", "B"), kept("B")}, {kept("A", "Z", "Y", "X", "W", "V")}, {kept("A", "Z"), made("K", "A", "Y", "K")},
	} {
		checked(t, fmt.Sprint(l), l, api.ErrShape)
	}
}

// plainCheck is a plain other way to Check of items whose kits are sound.
func plainCheck(items []api.Item) api.Errno {
	err := api.OK
	for _, item := range items {
		if len(item.Others) > 4 {
			return api.ErrShape
		}
		for i, code := range item.Others {
			if code == item.Code {
				return api.ErrShape
			}
			for j := range i {
				if item.Others[j] == code {
					return api.ErrShape
				}
			}
			found := false
			for _, one := range items {
				found = found || one.Code == code
			}
			if !found {
				err = api.ErrItem
			}
		}
	}
	return err
}

// someItems answers some items whose kits are sound, with any others.
func someItems(r *rand.Rand) []api.Item {
	names := []string{"A", "AB", "B", "B-1", "C", "K", "K2", "L"}
	names = names[:1+r.Intn(len(names))]
	var l []api.Item
	for i, name := range names {
		item := kept(name)
		if i > 0 && r.Intn(2) == 0 {
			item = made(name, names[r.Intn(i)])
		}
		for range max(0, r.Intn(7)-r.Intn(4)-2) {
			item.Others = append(item.Others, append([]string{"", "Z"}, slices.Repeat(names, 4)...)[r.Intn(2+4*len(names))])
		}
		l = append(l, item)
	}
	return l
}

func TestP8_1AsPlain(t *testing.T) {
	r := rand.New(rand.NewSource(81))
	seen := map[api.Errno]int{}
	for range 20000 {
		items := someItems(r)
		want := plainCheck(items)
		seen[want]++
		checked(t, fmt.Sprint(items), items, want)
	}
	for _, err := range []api.Errno{api.OK, api.ErrShape, api.ErrItem} {
		if seen[err] < 1000 {
			t.Error("the test tries too little:", seen)
		}
	}
}

func TestP8_2Example(t *testing.T) {
	rowed(t, example(), "A", "A", "C", "B")
	rowed(t, example(), "B", "B")
	rowed(t, example(), "C", "C")
	for _, code := range []string{"Z", "", "a", "A ", "AA", "\xff", strings.Repeat("A", 10000)} {
		rowed(t, example(), code)
	}
	rowed(t, nil, "A")
	rowed(t, nil, "")
	rowed(t, []api.Item{}, "A")
}

// TestP8_2AnyItems: rows are told of items that are not sound, as they stand.
func TestP8_2AnyItems(t *testing.T) {
	// Of two of one code the first one counts, though the other one has more.
	two := []api.Item{kept("B", "C"), kept("A"), kept("B", "A", "D"), kept("A", "B")}
	rowed(t, two, "A", "A")
	rowed(t, two, "B", "B", "C")
	rowed(t, two, "C")
	rowed(t, two, "D")
	// Codes that are none, and items that are none.
	odd := []api.Item{{}, {Code: "a", Life: math.MinInt, Others: []string{"a", "", "a"}}, {Code: "", Others: []string{"A"}}, {Code: "\xff", Others: []string{"Z", "Z"}}, {Code: "A", Life: 3, Parts: []api.Part{{Item: "A"}}, Others: []string{"A"}}}
	rowed(t, odd, "", "")
	rowed(t, odd[1:], "", "", "A")
	rowed(t, odd, "a", "a", "a", "", "a")
	rowed(t, odd, "\xff", "\xff", "Z", "Z")
	rowed(t, odd, "A", "A", "A")
	rowed(t, odd, "Z")
	// As many others as there are, of as many items.
	long := slices.Repeat([]string{"C", "B", ""}, 1000)
	rowed(t, []api.Item{kept("A", long...)}, "A", append([]string{"A"}, long...)...)
	lots := slices.Repeat([]api.Item{kept("A", "C")}, 10000)
	lots[9999] = kept("B", "A")
	rowed(t, lots, "B", "B", "A")
	rowed(t, lots, "A", "A", "C")
	// Of kits likewise; their parts are no others, and others of others are none.
	kits := []api.Item{kept("A", "K"), kept("B", "A"), made("K", "A", "B"), made("L", "K")}
	rowed(t, kits, "A", "A", "K")
	rowed(t, kits, "B", "B", "A")
	rowed(t, kits, "K", "K", "B")
	rowed(t, kits, "L", "L")
	rowed(t, []api.Item{{Code: "A", Others: []string{}}}, "A", "A")
}

func TestP8_2AsPlain(t *testing.T) {
	r := rand.New(rand.NewSource(82))
	for range 10000 {
		items := someItems(r)
		r.Shuffle(len(items), func(i, j int) { items[i], items[j] = items[j], items[i] })
		for i := range items {
			if r.Intn(4) == 0 {
				items[i].Code = items[r.Intn(len(items))].Code
			}
		}
		for _, code := range []string{"A", "AB", "B", "B-1", "C", "K", "K2", "L", "Z", ""} {
			var want []string
			for i := len(items) - 1; i >= 0; i-- {
				if items[i].Code == code {
					want = append([]string{code}, items[i].Others...)
				}
			}
			rowed(t, items, code, want...)
		}
	}
}

// TestP8_3EachOther: others may stand for each other, round and round, kits for what is kept and what is in them, and the other way round.
func TestP8_3EachOther(t *testing.T) {
	for _, items := range [][]api.Item{
		{kept("A", "B"), kept("B", "A")}, {kept("A", "B"), kept("B", "C"), kept("C", "A")},
		{kept("A", "B", "C", "D", "E"), kept("B", "A", "C", "D", "E"), kept("C", "A", "B", "D", "E"), kept("D", "A", "B", "C", "E"), kept("E", "A", "B", "C", "D")},
		{kept("A", "K"), made("K", "A")}, {kept("A"), made("K", "A", "A")}, {kept("A", "K"), made("K", "A", "A")}, {kept("A", "L"), made("K", "A", "L"), made("L", "K", "A", "K")},
		{kept("A"), kept("B"), made("K", "A", "L", "B"), made("L", "B", "K", "A")},
	} {
		checked(t, fmt.Sprint(items), items, api.OK)
	}
	// Through others a kit gets no deeper.
	deep := []api.Item{kept("C0")}
	for i := range 7 {
		deep = append(deep, made(fmt.Sprint("C", i+1), deep[i].Code))
	}
	deep[0].Others = []string{"C7"}
	checked(t, "others of the lowest one", deep, api.OK)
	rowed(t, deep, "C0", "C0", "C7")
}

// TestP8_3NothingHangsOnIt: what items are is told alike, whatever may stand for them.
func TestP8_3NothingHangsOnIt(t *testing.T) {
	r := rand.New(rand.NewSource(83))
	tried := 0
	for range 12000 {
		items := someItems(r)
		if Check(items) != api.OK {
			continue
		}
		bare := slices.Clone(items)
		for i := range bare {
			bare[i].Others = nil
		}
		if kit.Check(items) != kit.Check(bare) || Check(bare) != api.OK {
			t.Error(items)
		}
		for _, item := range items {
			parts, err := kit.Parts(items, item.Code, 3)
			plain, plainErr := kit.Parts(bare, item.Code, 3)
			if !slices.Equal(parts, plain) || err != plainErr || kit.Deep(items, item.Code) != kit.Deep(bare, item.Code) || !slices.Equal(kit.Within(items, item.Code), kit.Within(bare, item.Code)) {
				t.Error(items, item.Code, parts, plain)
			}
			tried += len(item.Others)
		}
	}
	if tried < 3000 {
		t.Error("the test tries too little:", tried)
	}
}

// deepClone answers items that share nothing with those.
func deepClone(items []api.Item) []api.Item {
	l := slices.Clone(items)
	for i := range l {
		l[i].Parts, l[i].Others = slices.Clone(l[i].Parts), slices.Clone(l[i].Others)
	}
	return l
}

// TestNothingKept holds both calls to DOC.md's R3 and R4: no argument is changed, what is handed out is new, and told alike each time.
func TestNothingKept(t *testing.T) {
	r := rand.New(rand.NewSource(84))
	for range 3000 {
		items := someItems(r)
		for i, item := range items {
			// Room behind the others, where nothing may be put.
			items[i].Others = append(slices.Clone(item.Others), "END")[:len(item.Others)]
		}
		whole := deepClone(items)
		was, check := fmt.Sprint(items), Check(items)
		for _, item := range items {
			row := Row(items, item.Code)
			first := slices.Clone(row)
			for i := range row {
				row[i] = "Q"
			}
			_ = append(row, "Q", "Q")
			if again := Row(items, item.Code); !slices.Equal(again, first) || !slices.Equal(Row(whole, item.Code), first) {
				t.Fatal("not answered alike:", items, item.Code, first, again)
			}
			if behind := item.Others[:len(item.Others)+1][len(item.Others)]; behind != "END" {
				t.Fatal("an argument was changed behind its end:", behind)
			}
		}
		if fmt.Sprint(items) != was {
			t.Fatal("an argument was changed:", was, items)
		}
		if Check(items) != check || Check(whole) != check {
			t.Fatal("not answered alike:", items)
		}
	}
}
