package code

import (
	"bytes"
	"math"
	"math/big"
	"math/rand"
	"regexp"
	"slices"
	"strings"
	"testing"
)

// The codes and numbers that there are, written out apart from the package's own ways. (?s) and \z: a byte 10 is no end here.
var (
	codes   = regexp.MustCompile(`(?s)\A[A-Z][A-Z0-9-]{0,11}\z`)
	numbers = regexp.MustCompile(`(?s)\A(0|-?[1-9][0-9]*)\z`)
)

// texts answers all texts of at most most of the bytes of from.
func texts(from string, most int) []string {
	l, last := []string{""}, []string{""}
	for range most {
		var next []string
		for _, s := range last {
			for i := range len(from) {
				next = append(next, s+from[i:i+1])
			}
		}
		l, last = append(l, next...), next
	}
	return l
}

// everyByte answers a text of all bytes that there are.
func everyByte() string {
	var b []byte
	for i := range 256 {
		b = append(b, byte(i))
	}
	return string(b)
}

// someCode answers a code by a fixed rule.
func someCode(r *rand.Rand) string {
	const letters, all = "ABCXYZ", "ABCXYZ0189-"
	b := []byte{letters[r.Intn(len(letters))]}
	for range r.Intn(12) {
		b = append(b, all[r.Intn(len(all))])
	}
	return string(b)
}

func TestP3_1Right(t *testing.T) {
	for _, s := range []string{
		"A", "Z", "M", "AB", "KIT-7", "A1", "A0", "A9", "A-", "Z--", "A-9", "X0-", "ABCDEFGHIJKL", "Z01234567890", "A-----------",
	} {
		if !Right(s) {
			t.Errorf("Right %q", s)
		}
	}
	for _, s := range []string{
		"", "a", "z", "7", "7A", "0", "-", "-A", " ", " A", "A ", "A B", "Ab", "KIT_7", "A.", "A/", "A:", "A@", "A[", "A`", "@", "[", "A,",
		"ABCDEFGHIJKLM", "ABCDEFGHIJKL-", "ABCDEFGHIJKL ", "A\n", "\nA", "A\x00", "\x00", "\x00A", "A\r\n", "A\t",
		// Letters, digits and lines that are none of those, and bytes that are no text.
		"\u00c9", "A\u00c9", "\u0391", "\u0410", "A\u0410", "\uff21", "A\uff11", "A\u0663", "A\u2013", "A\u2212", "A\xff", "\xff", "A\x80", "A\xc3", "\xc1\x81", "A\xef\xbf\xbd", "\xff\xff\xff",
		"\u00c9\u00c9\u00c9\u00c9\u00c9\u00c9", strings.Repeat("A", 14), strings.Repeat("A", 1+1<<8), strings.Repeat("A", 12+1<<8), strings.Repeat("A", 1<<16+1),
	} {
		if Right(s) {
			t.Errorf("Right %q", s)
		}
	}
}

func TestP3_1RightOfAllShort(t *testing.T) {
	for _, s := range texts(everyByte(), 2) {
		if got := Right(s); got != codes.MatchString(s) {
			t.Errorf("Right %q %v", s, got)
		}
	}
	for _, s := range texts("AZ09- a\xc3", 5) {
		if got := Right(s); got != codes.MatchString(s) {
			t.Errorf("Right %q %v", s, got)
		}
	}
}

// TestP3_1RightAtEachPlace puts each byte at each place of a code, of each length.
func TestP3_1RightAtEachPlace(t *testing.T) {
	for size := 1; size <= 14; size++ {
		for at := range size {
			for i := range 256 {
				b := []byte(strings.Repeat("A", size))
				b[at] = byte(i)
				s := string(b)
				if got := Right(s); got != codes.MatchString(s) {
					t.Errorf("Right %q %v", s, got)
				}
			}
		}
	}
}

func TestP3_2Text(t *testing.T) {
	for _, c := range []struct {
		n    int64
		want string
	}{
		{0, "0"}, {1, "1"}, {-1, "-1"}, {9, "9"}, {10, "10"}, {-10, "-10"}, {-5, "-5"}, {4000, "4000"}, {1 << 30, "1073741824"},
		{1 << 32, "4294967296"}, {-(1 << 31), "-2147483648"}, {1000000000000000000, "1000000000000000000"},
		{math.MaxInt64, "9223372036854775807"}, {math.MinInt64, "-9223372036854775808"}, {math.MinInt64 + 1, "-9223372036854775807"},
	} {
		if got := Text(c.n); got != c.want {
			t.Errorf("Text %d %q", c.n, got)
		}
		if got, ok := Number(c.want); got != c.n || !ok {
			t.Errorf("Number %q %d %v", c.want, got, ok)
		}
	}
}

func TestP3_2NumberOfNone(t *testing.T) {
	for _, s := range []string{
		"", "-", "+", "--", "--5", "-+5", "+-5", "+0", "+5", "-0", "00", "05", "-05", "000", "-00", "0-", "5-", "5+",
		" ", " 5", "5 ", " 5 ", "- 5", "5 0", "\t5", "5\n", "\n5", "5\r\n", "5\x00", "\x005", "5.0", "5.", ".5", "5e0", "1e3", "0x10", "0b1", "0o7", "1_000", "_1", "1_",
		"a", "A", "5a", "a5", "nan", "inf", "-inf", "1,000", "5;", "'5'", "/", ":", "-/", "1:",
		// Digits and minuses that are none of those, and bytes that are no text.
		"\u0663", "\uff15", "\u22125", "\u20135", "5\u00a0", "\ufeff5", "\xff", "5\xff", "\xff5", "\u00b2",
		// Beyond what there is by one, by much, and such that would come round to a number in 64 bits.
		"9223372036854775808", "-9223372036854775809", "9223372036854775810", "9999999999999999999", "-9999999999999999999", "10000000000000000000",
		"18446744073709551615", "18446744073709551616", "18446744073709551621", "-18446744073709551616", "-18446744073709551611", "36893488147419103232",
		"340282366920938463463374607431768211461", strings.Repeat("9", 1000), "-" + strings.Repeat("9", 1000),
		// Noughts ahead of what would be one.
		"09223372036854775807", "-09223372036854775808", strings.Repeat("0", 100), strings.Repeat("0", 100) + "5", strings.Repeat("0", 1<<20),
	} {
		if got, ok := Number(s); got != 0 || ok {
			t.Errorf("Number %q %d %v", s, got, ok)
		}
	}
}

// said answers the number that s says, if it says one, by numbers of any size.
func said(s string) (int64, bool) {
	if !numbers.MatchString(s) {
		return 0, false
	}
	n, ok := new(big.Int).SetString(s, 10)
	if !ok || !n.IsInt64() {
		return 0, false
	}
	return n.Int64(), true
}

func TestP3_2NumberOfAllShort(t *testing.T) {
	for _, s := range slices.Concat(texts(everyByte(), 2), texts("0159-+ _.ex", 4), texts("019-", 7)) {
		want, right := said(s)
		if got, ok := Number(s); got != want || ok != right {
			t.Errorf("Number %q %d %v", s, got, ok)
		}
	}
}

func TestP3_2NumberOfLong(t *testing.T) {
	r := rand.New(rand.NewSource(1))
	right, wrong := 0, 0
	for range 100000 {
		b := []byte(strings.Repeat("-", r.Intn(2)))
		for range 17 + r.Intn(4) {
			b = append(b, byte('0'+r.Intn(10)))
		}
		want, is := said(string(b))
		if got, ok := Number(string(b)); got != want || ok != is {
			t.Fatalf("Number %q %d %v", b, got, ok)
		}
		if is {
			right++
		} else {
			wrong++
		}
	}
	if right < 1000 || wrong < 1000 {
		t.Error("too few of a kind", right, wrong)
	}
}

// TestP3_2NumberAtTheEnds goes through the numbers, and none, about both ends of what there is.
func TestP3_2NumberAtTheEnds(t *testing.T) {
	for _, end := range []int64{math.MinInt64, math.MaxInt64} {
		for i := int64(-50); i <= 50; i++ {
			n := new(big.Int).Add(big.NewInt(end), big.NewInt(i))
			want, right := said(n.String())
			if got, ok := Number(n.String()); got != want || ok != right || ok != n.IsInt64() {
				t.Error("Number", n, got, ok)
			}
		}
	}
}

func TestP3_2TextIsRead(t *testing.T) {
	r := rand.New(rand.NewSource(2))
	for range 100000 {
		n := int64(r.Uint64()) >> r.Intn(64)
		s := Text(n)
		if want := big.NewInt(n).String(); s != want {
			t.Fatalf("Text %d %q", n, s)
		}
		if got, ok := Number(s); got != n || !ok {
			t.Fatalf("Number %q %d %v", s, got, ok)
		}
	}
}

func TestP3_3Put(t *testing.T) {
	for _, c := range []struct {
		s    string
		want []byte
	}{
		{"", []byte{0}},
		{"A", []byte{1, 'A'}},
		{"AB", []byte{2, 'A', 'B'}},
		{"KIT-7", []byte{5, 'K', 'I', 'T', '-', '7'}},
		{"ABCDEFGHIJKL", []byte("\x0cABCDEFGHIJKL")},
		{"ABCDEFGHIJKLM", nil},
		{"ab", nil}, {"a", nil}, {"7", nil}, {"-", nil}, {"A B", nil}, {" ", nil}, {"\x00", nil}, {"A\x00", nil}, {"A\xff", nil}, {"\u00c9", nil},
		{strings.Repeat("A", 256), nil}, {strings.Repeat("A", 257), nil}, {strings.Repeat("A", 268), nil},
	} {
		if got := Put(c.s); !bytes.Equal(got, c.want) {
			t.Errorf("Put %q %v", c.s, got)
		}
	}
}

func TestP3_3Get(t *testing.T) {
	for _, c := range []struct {
		b    string
		want string
		n    int
		ok   bool
	}{
		{"\x02AB\x09", "AB", 3, true},
		{"\x00\x05", "", 1, true},
		{"\x00", "", 1, true},
		{"\x00A", "", 1, true},
		{"\x00\x00", "", 1, true},
		{"\x01A", "A", 2, true},
		{"\x01AB", "A", 2, true},
		{"\x02A-", "A-", 3, true},
		{"\x01A\x01B", "A", 2, true},
		{"\x01A\xff", "A", 2, true},
		{"\x0cABCDEFGHIJKL", "ABCDEFGHIJKL", 13, true},
		{"\x0cABCDEFGHIJKLM", "ABCDEFGHIJKL", 13, true},
		{"", "", 0, false},
		{"\x03AB", "", 0, false},
		{"\x01a", "", 0, false},
		{"\x01", "", 0, false},
		{"\x0c", "", 0, false},
		{"\x0cABCDEFGHIJK", "", 0, false},
		{"\x0dABCDEFGHIJKLM", "", 0, false},
		{"\x0dABCDEFGHIJKLMN", "", 0, false},
		{"\x01-", "", 0, false},
		{"\x017", "", 0, false},
		{"\x02A ", "", 0, false},
		{"\x02A\x00", "", 0, false},
		{"\x02A\n", "", 0, false},
		{"\x02\x00A", "", 0, false},
		{"\x02AbC", "", 0, false},
		{"\x02\u00c9", "", 0, false},
		{"A", "", 0, false},
		{"AB", "", 0, false},
		{"\x80" + strings.Repeat("A", 128), "", 0, false},
		{"\xff" + strings.Repeat("A", 255), "", 0, false},
		{"\xff" + strings.Repeat("A", 300), "", 0, false},
		{"\xff", "", 0, false},
	} {
		if got, n, ok := Get([]byte(c.b)); got != c.want || n != c.n || ok != c.ok {
			t.Errorf("Get %q %q %d %v", c.b, got, n, ok)
		}
	}
	if got, n, ok := Get(nil); got != "" || n != 0 || ok {
		t.Error("Get of none", got, n, ok)
	}
}

// begun is a plain other way to Get: each beginning of b is held against what it would have to be.
func begun(b string) (string, int, bool) {
	if strings.HasPrefix(b, "\x00") {
		return "", 1, true
	}
	for n := 1; n < len(b); n++ {
		if int(b[0]) == n && codes.MatchString(b[1:n+1]) {
			return b[1 : n+1], n + 1, true
		}
	}
	return "", 0, false
}

func TestP3_3GetOfAllShort(t *testing.T) {
	for _, b := range slices.Concat(texts(everyByte(), 2), texts("\x00\x01\x02\x03\x04AZ0-a\xff", 5)) {
		want, size, right := begun(b)
		if got, n, ok := Get([]byte(b)); got != want || n != size || ok != right {
			t.Errorf("Get %q %q %d %v", b, got, n, ok)
		}
		// What is got is put as just those bytes that went by.
		if right && string(Put(want)) != b[:size] {
			t.Errorf("Get %q Put %q", b, Put(want))
		}
	}
}

func TestP3_3PutOfAllShort(t *testing.T) {
	for _, s := range slices.Concat(texts(everyByte(), 2), texts("AZ09- a\xc3", 5)) {
		want := ""
		if s == "" || codes.MatchString(s) {
			want = string([]byte{byte(len(s))}) + s
		}
		if got := Put(s); string(got) != want {
			t.Errorf("Put %q %q", s, got)
		}
	}
}

// TestP3_3GetOfLess cuts a code's bytes short, in such a way that what is missing still lies behind, within the slice's capacity.
func TestP3_3GetOfLess(t *testing.T) {
	for _, s := range []string{"", "A", "AB", "KIT-7", "ABCDEFGHIJKL"} {
		b := Put(s)
		for n := range b {
			if got, size, ok := Get(b[:n]); got != "" || size != 0 || ok {
				t.Errorf("Get %q of %q %d %v", b[:n], got, size, ok)
			}
		}
	}
}

func TestP3_4PutIsGot(t *testing.T) {
	r := rand.New(rand.NewSource(3))
	for range 20000 {
		s := someCode(r)
		if r.Intn(10) == 0 {
			s = ""
		}
		b := Put(s)
		tail := make([]byte, r.Intn(20))
		r.Read(tail)
		for _, behind := range [][]byte{nil, tail, {0}, {'A'}, {0xff}, b, Put("A")} {
			if got, n, ok := Get(slices.Concat(b, behind)); got != s || n != len(b) || !ok {
				t.Fatalf("Get %q and %q: %q %d %v", b, behind, got, n, ok)
			}
		}
	}
}

// TestP3_4PutIsGotInARow reads codes that stand one behind the other.
func TestP3_4PutIsGotInARow(t *testing.T) {
	r := rand.New(rand.NewSource(4))
	for range 1000 {
		var l []string
		var b []byte
		for range r.Intn(10) {
			s := someCode(r)
			if r.Intn(4) == 0 {
				s = ""
			}
			l, b = append(l, s), append(b, Put(s)...)
		}
		for i, s := range l {
			got, n, ok := Get(b)
			if got != s || !ok {
				t.Fatal("Get", l, i, got, n, ok)
			}
			b = b[n:]
		}
		if len(b) != 0 {
			t.Fatal("Get", l, "left", b)
		}
	}
}

func TestP3_4Order(t *testing.T) {
	if bytes.Compare(Put("B"), Put("AA")) >= 0 || bytes.Compare(Put(""), Put("A")) >= 0 || bytes.Compare(Put("AB"), Put("AC")) >= 0 {
		t.Error("order", Put("B"), Put("AA"))
	}
	r := rand.New(rand.NewSource(5))
	for range 20000 {
		a, b := someCode(r), someCode(r)
		want := strings.Compare(a, b)
		if len(a) < len(b) {
			want = -1
		} else if len(a) > len(b) {
			want = 1
		}
		if got := bytes.Compare(Put(a), Put(b)); got != want {
			t.Fatal("order", a, b, got)
		}
	}
}

// TestNothingKept holds Put and Get to DOC.md's R3 and R4: no argument is changed or kept, what is handed out is new, and told alike each time.
func TestNothingKept(t *testing.T) {
	for _, s := range []string{"", "AB"} {
		first := Put(s)
		want := slices.Clone(first)
		for i := range first {
			first[i] = 'Z'
		}
		if got := Put(s); !bytes.Equal(got, want) {
			t.Error("told otherwise", got)
		}
	}
	b := []byte("\x02AB\x09")
	s, n, ok := Get(b)
	if string(b) != "\x02AB\x09" {
		t.Error("argument changed", b)
	}
	copy(b, "\x01ZZZ")
	if s != "AB" || n != 3 || !ok {
		t.Error("argument kept", s, n, ok)
	}
	if again, _, _ := Get([]byte("\x02AB")); again != "AB" {
		t.Error("told otherwise", again)
	}
}
