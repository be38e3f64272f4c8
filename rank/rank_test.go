package rank

import (
	"fmt"
	"math"
	"math/rand"
	"slices"
	"strings"
	"testing"

	"storeman/api"
)

// line answers a right line that is open and put back.
func line(id, rank int) api.Line {
	return api.Line{Id: id, Item: "A", Qty: 3, Asked: 2, Rank: rank, State: api.LineOpen, Day: -1}
}

// in answers a line in another state, with what it is confirmed for.
func in(l api.Line, state api.LineState, day int, code string) api.Line {
	l.State, l.Day, l.Code = state, day, code
	return l
}

func off(l api.Line) api.Line { return in(l, api.LineOff, -1, "") }

func shipped(l api.Line) api.Line { return in(l, api.LineShipped, 4, "A") }

// example answers the lines of the chapter's example.
func example() []api.Line {
	return []api.Line{line(1, 5), off(line(2, 3)), line(3, 3), line(4, 5)}
}

// ids answers the Ids of l, as they stand.
func ids(l []api.Line) []int {
	var all []int
	for _, one := range l {
		all = append(all, one.Id)
	}
	return all
}

// numbered answers l with the place of each in its Qty, so that each can be told from all others; no call but Right asks for it.
func numbered(l []api.Line) []api.Line {
	l = slices.Clone(l)
	for i := range l {
		l[i].Qty = int64(i)
	}
	return l
}

// edges are ints at, beside and far from the edges that the chapter names.
func edges() []int {
	return []int{math.MinInt, math.MinInt + 1, math.MinInt32, -4000, -100, -2, -1, 0, 1, 2, 5, 98, 99, 100, 101, 3999, 4000, 4001, 4002, math.MaxInt32, math.MaxInt - 1, math.MaxInt}
}

// codes are texts that are codes, and wrongCodes those that are none, nor empty.
func codes() []string {
	return []string{"A", "Z", "KIT-7", "A-", "B0", "ABCDEFGHIJKL", "Z-----------"}
}

func wrongCodes() []string {
	return []string{"a", "7", "-", "-A", "0A", "A ", " A", "A_", "Ab", "A\x00", "\x00", "\xff", "A\xff", "Ä", "ABCDEFGHIJKLM", strings.Repeat("A", 257), strings.Repeat("A", 1000)}
}

// righted holds that Right tells so of a line.
func righted(t *testing.T, l api.Line, want bool) {
	t.Helper()
	if got := Right(l); got != want {
		t.Errorf("Right of %#v: %v", l, got)
	}
}

func TestP9_1RightNumbers(t *testing.T) {
	for _, n := range edges() {
		for _, base := range []api.Line{line(1, 5), off(line(1, 0)), shipped(line(1, 99)), in(line(1, 7), api.LineOpen, 0, "B")} {
			l := base
			l.Id = n
			righted(t, l, n >= 1)
			l = base
			l.Asked = n
			righted(t, l, 0 <= n && n <= 4000)
			l = base
			l.Rank = n
			righted(t, l, 0 <= n && n <= 99)
		}
	}
	for _, qty := range []int64{math.MinInt64, math.MinInt64 + 1, -1 << 32, -1 << 30, -1, 0, 1, 2, 1<<30 - 1, 1 << 30, 1<<30 + 1, 1 << 31, 1 << 32, 1<<32 + 1, 1 << 50, math.MaxInt64} {
		l := line(1, 5)
		l.Qty = qty
		righted(t, l, 1 <= qty && qty <= 1073741824)
	}
	righted(t, api.Line{}, false)
}

func TestP9_1RightItem(t *testing.T) {
	for _, base := range []api.Line{line(1, 5), off(line(1, 5)), shipped(line(1, 5))} {
		l := base
		for _, l.Item = range codes() {
			righted(t, l, true)
		}
		for _, l.Item = range append(wrongCodes(), "") {
			righted(t, l, false)
		}
	}
}

// TestP9_1RightStanding: what a line is confirmed for has both a day and a code, or neither, as its State lets it.
func TestP9_1RightStanding(t *testing.T) {
	for state := range 256 {
		open, done, gone := state == 1, state == 2, state == 3
		for _, day := range edges() {
			isDay := 0 <= day && day <= 4000
			for _, code := range codes() {
				righted(t, in(line(1, 5), api.LineState(state), day, code), isDay && (open || done))
			}
			righted(t, in(line(1, 5), api.LineState(state), day, ""), day == -1 && (open || gone))
			for _, code := range wrongCodes() {
				righted(t, in(line(1, 5), api.LineState(state), day, code), false)
			}
		}
	}
	// Neither is held against any other field: the item, the day from which it asks.
	early := in(line(1, 5), api.LineOpen, 0, "Z")
	early.Asked = 4000
	righted(t, early, true)
}

// TestP9_1RightOfTwoFaults: no fault is made good by another one.
func TestP9_1RightOfTwoFaults(t *testing.T) {
	faults := []func(*api.Line){
		func(l *api.Line) { l.Id = 0 }, func(l *api.Line) { l.Item = "" }, func(l *api.Line) { l.Item = "a" }, func(l *api.Line) { l.Qty = 0 }, func(l *api.Line) { l.Qty = 1<<30 + 1 },
		func(l *api.Line) { l.Asked = -1 }, func(l *api.Line) { l.Asked = 4001 }, func(l *api.Line) { l.Rank = -1 }, func(l *api.Line) { l.Rank = 100 },
		func(l *api.Line) { l.State = 0 }, func(l *api.Line) { l.State = 4 }, func(l *api.Line) { l.Day = -2 }, func(l *api.Line) { l.Day = 4001 },
	}
	for _, base := range []api.Line{line(1, 5), off(line(1, 5)), shipped(line(1, 5)), in(line(1, 5), api.LineOpen, 9, "B")} {
		righted(t, base, true)
		for _, one := range faults {
			for _, other := range faults {
				l := base
				one(&l)
				other(&l)
				righted(t, l, false)
			}
		}
	}
}

// ahead tells whether a is ahead of b, apart from the package's own ways.
func ahead(a, b api.Line) bool {
	if a.Rank != b.Rank {
		return a.Rank < b.Rank
	}
	return a.Id < b.Id
}

func TestP9_1Compare(t *testing.T) {
	for _, c := range []struct {
		a, b api.Line
		want int
	}{
		{line(1, 3), line(2, 5), -1}, {line(2, 3), line(1, 5), -1}, {line(1, 5), line(2, 5), -1}, {line(1, 5), line(1, 5), 0}, {line(9, 5), line(10, 5), -1}, {line(1, 9), line(1, 10), -1},
		// Nothing else is asked of them, and none need be right.
		{shipped(line(1, 5)), off(line(1, 5)), 0}, {in(line(1, 5), 9, 7, "B"), line(1, 5), 0}, {off(line(1, 4)), line(1, 5), -1}, {line(1, 5), off(line(2, 5)), -1},
		{api.Line{Item: "Z", Qty: 9, Asked: 9, State: 3, Day: 9, Code: "Z"}, api.Line{}, 0}, {api.Line{}, line(1, 0), -1}, {api.Line{Qty: 1}, api.Line{Asked: -1}, 0},
	} {
		if got := Compare(c.a, c.b); got != c.want {
			t.Errorf("Compare of %+v and %+v: %d", c.a, c.b, got)
		}
		if got := Compare(c.b, c.a); got != -c.want {
			t.Errorf("Compare of %+v and %+v: %d", c.b, c.a, got)
		}
	}
}

// TestP9_1CompareOfEdges: what is far apart would run over, if it was subtracted.
func TestP9_1CompareOfEdges(t *testing.T) {
	var all []api.Line
	for _, rank := range edges() {
		for _, id := range edges() {
			all = append(all, line(id, rank))
		}
	}
	for _, a := range all {
		for _, b := range all {
			want := 0
			if ahead(a, b) {
				want = -1
			} else if ahead(b, a) {
				want = 1
			}
			if got := Compare(a, b); got != want {
				t.Fatalf("Compare of %+v and %+v: %d", a, b, got)
			}
		}
	}
}

// someLines answers lines by a fixed rule, wrong ones among them, many of one Rank, some of one Id as well.
func someLines(r *rand.Rand, most int) []api.Line {
	l := make([]api.Line, r.Intn(most+1))
	for i := range l {
		l[i] = line(r.Intn(14)-1, r.Intn(5)-1)
		switch r.Intn(12) {
		case 0:
			l[i] = off(l[i])
		case 1:
			l[i] = shipped(l[i])
		case 2:
			l[i] = in(l[i], api.LineState(r.Intn(256)), r.Intn(9)-2, "a")
		case 3:
			l[i].Rank, l[i].Id = edges()[r.Intn(len(edges()))], edges()[r.Intn(len(edges()))]
		case 4, 5:
			l[i] = in(l[i], api.LineOpen, r.Intn(9), "B")
		}
	}
	return l
}

// opened is a plain other way to Open: each open line goes ahead of those that it is ahead of, and behind all others.
func opened(l []api.Line) []api.Line {
	var all []api.Line
	for _, one := range l {
		if one.State != 1 {
			continue
		}
		at := len(all)
		for at > 0 && ahead(one, all[at-1]) {
			at--
		}
		all = slices.Insert(all, at, one)
	}
	return all
}

// inFront is a plain other way to Ahead: it begins anew with each line that is open, till one of that Id comes.
func inFront(l []api.Line, id int) []api.Line {
	var all []api.Line
	for _, one := range opened(l) {
		if one.Id == id {
			return all
		}
		all = append(all, one)
	}
	return nil
}

// openedSo holds that Open has those Ids.
func openedSo(t *testing.T, l []api.Line, want ...int) {
	t.Helper()
	if got := ids(Open(l)); !slices.Equal(got, want) {
		t.Errorf("Open of %+v: %v, not %v", l, got, want)
	}
}

// aheadSo holds that Ahead has those Ids.
func aheadSo(t *testing.T, l []api.Line, id int, want ...int) {
	t.Helper()
	if got := ids(Ahead(l, id)); !slices.Equal(got, want) {
		t.Errorf("Ahead of %+v, %d: %v, not %v", l, id, got, want)
	}
}

func TestP9_2Example(t *testing.T) {
	openedSo(t, example(), 3, 1, 4)
	if got := Open(example()); !slices.Equal(got, []api.Line{line(3, 3), line(1, 5), line(4, 5)}) {
		t.Error("not as they are:", got)
	}
	openedSo(t, nil)
	openedSo(t, []api.Line{})
	openedSo(t, []api.Line{off(line(1, 5)), shipped(line(2, 4))})
}

// TestP9_2States: nothing but its State says whether a line is open.
func TestP9_2States(t *testing.T) {
	var all []api.Line
	for state := range 256 {
		all = append(all, in(line(state, 5), api.LineState(state), -1, ""))
	}
	openedSo(t, all, 1)
	wrong := []api.Line{{State: 1}, {Id: -7, Item: "a", Qty: -1, Asked: -1, Rank: -3, State: 1, Day: 5000, Code: "\xff"}, {Id: 3, Rank: 1000, State: 1, Day: -1, Code: "A"}}
	if got := Open(wrong); !slices.Equal(got, []api.Line{wrong[1], wrong[0], wrong[2]}) {
		t.Error("wrong ones:", got)
	}
	confirmed := []api.Line{in(line(2, 5), 1, 0, "A"), line(1, 5), in(line(3, 4), 1, 4000, "B")}
	if got := Open(confirmed); !slices.Equal(got, []api.Line{confirmed[2], confirmed[1], confirmed[0]}) {
		t.Error("confirmed ones:", got)
	}
}

func TestP9_2FarApart(t *testing.T) {
	far := []api.Line{line(1, math.MaxInt), line(1, math.MinInt), line(math.MaxInt, 0), line(math.MinInt, 0), line(0, -1), line(0, 1)}
	if got := Open(far); !slices.Equal(got, []api.Line{far[1], far[4], far[3], far[2], far[5], far[0]}) {
		t.Error(got)
	}
	// Ids are no texts: 9 is ahead of 10; and a rank weighs more than any Id.
	openedSo(t, []api.Line{line(10, 5), line(9, 5), line(100, 5), line(1, 10), line(2000, 9)}, 9, 10, 100, 2000, 1)
}

// TestP9_2AsTheyStood has so many lines of one Rank and one Id that a way that turns them about would be seen.
func TestP9_2AsTheyStood(t *testing.T) {
	for _, size := range []int{2, 12, 13, 50, 300, 5000} {
		same := make([]api.Line, size)
		for i := range same {
			same[i] = line(7, 5)
		}
		same = numbered(same)
		if got := Open(same); !slices.Equal(got, same) {
			t.Error("turned about", size)
		}
		for i := range same {
			same[i].Rank, same[i].Id = i%3, i/3%2
			if i%7 == 3 {
				same[i] = off(same[i])
			}
		}
		if got := Open(same); !slices.Equal(got, opened(same)) {
			t.Error("turned about, of some", size)
		}
	}
}

func TestP9_2AsPlain(t *testing.T) {
	r := rand.New(rand.NewSource(92))
	for range 10000 {
		l := numbered(someLines(r, 30))
		if got := Open(l); !slices.Equal(got, opened(l)) {
			t.Fatal("Open", l, got)
		}
	}
}

func TestP9_3Example(t *testing.T) {
	aheadSo(t, example(), 4, 3, 1)
	aheadSo(t, example(), 1, 3)
	for _, id := range []int{3, 2, 0, 5, -1, math.MinInt, math.MaxInt} {
		aheadSo(t, example(), id)
	}
	if got := Ahead(example(), 4); !slices.Equal(got, []api.Line{line(3, 3), line(1, 5)}) {
		t.Error("not as they are:", got)
	}
	for _, id := range []int{0, 1, -1} {
		aheadSo(t, nil, id)
		aheadSo(t, []api.Line{}, id)
		aheadSo(t, []api.Line{line(1, 5)}, id)
	}
}

// TestP9_3NotOpen: a line that is not open has none ahead of it, and is ahead of none.
func TestP9_3NotOpen(t *testing.T) {
	for _, gone := range []api.Line{off(line(2, 3)), shipped(line(2, 3)), in(line(2, 3), 0, -1, ""), in(line(2, 3), 4, -1, "")} {
		l := []api.Line{line(1, 1), gone, line(3, 5)}
		aheadSo(t, l, 2)
		aheadSo(t, l, 3, 1)
		// Of one that is open and one that is not, both of one Id, the open one counts, wherever they stand.
		aheadSo(t, []api.Line{gone, line(2, 5), line(1, 5)}, 2, 1)
		aheadSo(t, []api.Line{line(2, 5), line(1, 5), gone}, 2, 1)
	}
}

// TestP9_3FirstOfThatId: the first one in the order of Open, not the one that stands first in the lines.
func TestP9_3FirstOfThatId(t *testing.T) {
	l := []api.Line{line(4, 7), line(1, 5), line(4, 3), line(3, 3), line(2, 0), line(4, 5)}
	openedSo(t, l, 2, 3, 4, 1, 4, 4)
	aheadSo(t, l, 4, 2, 3)
	aheadSo(t, l, 1, 2, 3, 4)
	aheadSo(t, l, 3, 2)
	aheadSo(t, l, 2)
	// Of one Rank and one Id none is ahead of the first one.
	aheadSo(t, []api.Line{line(1, 5), line(1, 5), line(1, 5)}, 1)
	same := numbered([]api.Line{line(2, 5), line(1, 5), line(1, 5), line(2, 5)})
	if got := Ahead(same, 2); !slices.Equal(got, []api.Line{same[1], same[2]}) {
		t.Error("of one Id:", got)
	}
	// Wrong ones have Ids, too.
	wrong := []api.Line{line(0, 5), line(-1, 5), line(math.MinInt, 5), line(math.MaxInt, -1)}
	aheadSo(t, wrong, 0, math.MaxInt, math.MinInt, -1)
	aheadSo(t, wrong, math.MinInt, math.MaxInt)
	aheadSo(t, wrong, math.MaxInt)
}

func TestP9_3AsPlain(t *testing.T) {
	r := rand.New(rand.NewSource(93))
	seen := 0
	for range 4000 {
		l := numbered(someLines(r, 25))
		for _, id := range append(edges(), 3, 4, 6, 7, 8, 9, 10, 11, 12, 13) {
			want := inFront(l, id)
			if got := Ahead(l, id); !slices.Equal(got, want) {
				t.Fatal("Ahead", l, id, got)
			}
			seen += len(want)
		}
	}
	if seen < 50000 {
		t.Error("the test tries too little:", seen)
	}
}

// TestP9_4OpenOnce: each open line is told once, all as they are, and Open of Open is itself.
func TestP9_4OpenOnce(t *testing.T) {
	r := rand.New(rand.NewSource(94))
	for range 4000 {
		l := numbered(someLines(r, 30))
		some := Open(l)
		times := map[api.Line]int{}
		for _, one := range some {
			times[one]++
		}
		for _, one := range l {
			want := 0
			if one.State == api.LineOpen {
				want = 1
			}
			if times[one] != want {
				t.Fatal("told so often:", times[one], one)
			}
			delete(times, one)
		}
		if len(times) != 0 {
			t.Fatal("made up:", times)
		}
		if again := Open(some); !slices.Equal(again, some) {
			t.Fatal("Open of Open", some, again)
		}
		for i, one := range some {
			for _, other := range some[i+1:] {
				if Compare(one, other) > 0 {
					t.Fatal("one that is ahead stands behind:", one, other)
				}
			}
		}
	}
}

// TestP9_4OneIsAhead: of two open lines of unlike Ids one is among those ahead of the other, and not the other way round; of unlike Ranks, one is ahead in Open, too, though of one Id.
func TestP9_4OneIsAhead(t *testing.T) {
	r := rand.New(rand.NewSource(95))
	for range 2000 {
		l := numbered(someLines(r, 14))
		some := Open(l)
		for i, a := range some {
			for j, b := range some {
				if a.Rank == b.Rank && a.Id == b.Id {
					continue
				}
				if ahead(a, b) != (i < j) {
					t.Fatal("Open", a, b, i, j)
				}
				two := []api.Line{a, b}
				if a.Id != b.Id && slices.Contains(Ahead(two, b.Id), a) != ahead(a, b) {
					t.Fatal("Ahead of two", a, b)
				}
				// Where no two have one Id, it holds among all of them as well.
				if alone(some, a.Id) && alone(some, b.Id) && slices.Contains(Ahead(l, b.Id), a) == slices.Contains(Ahead(l, a.Id), b) {
					t.Fatal("Ahead", a, b)
				}
			}
		}
	}
}

// alone tells whether at most one of l has that Id.
func alone(l []api.Line, id int) bool {
	many := 0
	for _, one := range l {
		if one.Id == id {
			many++
		}
	}
	return many <= 1
}

// TestNothingKept holds all calls to DOC.md's R3 and R4: no argument is changed or kept, what is handed out is new, and told alike each time.
func TestNothingKept(t *testing.T) {
	r := rand.New(rand.NewSource(96))
	for range 500 {
		l := numbered(someLines(r, 12))
		was := slices.Clone(l)
		// Room behind the lines, where nothing may be put.
		l = append(l, line(99, 99))[:len(l)]
		calls := func(l []api.Line) [][]api.Line {
			return [][]api.Line{Open(l), Ahead(l, 3), Ahead(l, 7), Ahead(l, -1), Open(Open(l)), Ahead(Open(l), 7), Ahead(l, 500)}
		}
		first, want := calls(l), calls(was)
		if !slices.Equal(l, was) || l[:len(l)+1][len(l)] != line(99, 99) {
			t.Fatal("argument changed", was, l)
		}
		// Each answer is written over, to its capacity, and seen to turn neither the lines nor any other answer.
		for i := range first {
			whole := first[i][:cap(first[i])]
			for j := range whole {
				whole[j] = line(98, 98)
			}
			for j := i + 1; j < len(first); j++ {
				if !slices.Equal(first[j], want[j]) {
					t.Fatal("two answers share", i, j)
				}
			}
		}
		second := calls(l)
		if !slices.Equal(l, was) {
			t.Fatal("answers share with the argument", was, l)
		}
		clear(l)
		for i, got := range second {
			if !slices.Equal(got, want[i]) {
				t.Fatal("argument kept, or not answered alike", i, got, want[i])
			}
		}
	}
}

// TestAheadHasNoRoom: what is put behind the lines ahead goes into memory of its own, over none of the lines that were left out.
func TestAheadHasNoRoom(t *testing.T) {
	for n := range 20 {
		var l []api.Line
		for i := range n + 1 {
			l = append(l, line(i+1, 5))
		}
		if got := Ahead(l, n+1); len(got) != n || cap(got) != n {
			t.Error(fmt.Sprint("Ahead of ", n+1), len(got), cap(got))
		}
		if got := Ahead(l, n/2+1); len(got) != n/2 || cap(got) != n/2 {
			t.Error(fmt.Sprint("Ahead of ", n/2+1), len(got), cap(got))
		}
	}
}
