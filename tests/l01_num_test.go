package tests

import (
	"math"
	"strings"
	"testing"

	"loop.example/g01618/impl"
)

// Promise 1: each decoder is the inverse of its encoder and accepts nothing
// else. These tests hold it for the functions of chapter 1.

// stringsOver returns all strings of at most the given length over an alphabet
// of bytes, the empty string first.
func stringsOver(alphabet string, length int) []string {
	out := []string{""}
	start := 0
	for range length {
		end := len(out)
		for _, head := range out[start:end] {
			for i := range len(alphabet) {
				out = append(out, head+alphabet[i:i+1])
			}
		}
		start = end
	}
	return out
}

func checkReadFixed(t *testing.T, s string, width int, want int, wantOk bool) {
	t.Helper()
	if n, ok := impl.ReadFixed(s, width); n != want || ok != wantOk {
		t.Errorf("ReadFixed(%q, %d) = %d, %v, want %d, %v", s, width, n, ok, want, wantOk)
	}
}

func checkReadVar(t *testing.T, s string, want int, wantSize int) {
	t.Helper()
	if n, size := impl.ReadVar(s); n != want || size != wantSize {
		t.Errorf("ReadVar(%q) = %d, %d, want %d, %d", s, n, size, want, wantSize)
	}
}

func checkUnhex(t *testing.T, s string, want string, wantOk bool) {
	t.Helper()
	if x, ok := impl.Unhex(s); x != want || ok != wantOk {
		t.Errorf("Unhex(%q) = %q, %v, want %q, %v", s, x, ok, want, wantOk)
	}
}

func checkReadDec(t *testing.T, s string, want int, wantOk bool) {
	t.Helper()
	if n, ok := impl.ReadDec(s); n != want || ok != wantOk {
		t.Errorf("ReadDec(%q) = %d, %v, want %d, %v", s, n, ok, want, wantOk)
	}
}

func TestFixedBytes(t *testing.T) {
	cases := []struct {
		n, width int
		want     string
	}{
		{258, 2, "\x01\x02"},
		{0, 1, "\x00"},
		{0, 7, "\x00\x00\x00\x00\x00\x00\x00"},
		{1, 3, "\x00\x00\x01"},
		{128, 1, "\x80"},
		{255, 1, "\xff"},
		{256, 2, "\x01\x00"},
		{0x01020304050607, 7, "\x01\x02\x03\x04\x05\x06\x07"},
		{0xfedcba, 3, "\xfe\xdc\xba"},
	}
	for _, c := range cases {
		if got := impl.Fixed(c.n, c.width); got != c.want {
			t.Errorf("Fixed(%d, %d) = %q, want %q", c.n, c.width, got, c.want)
		}
		checkReadFixed(t, c.want, c.width, c.n, true)
	}
}

func TestFixedGreatestOfEachWidth(t *testing.T) {
	for width := 1; width <= 7; width++ {
		greatest := 1<<(8*width) - 1
		full := strings.Repeat("\xff", width)
		if got := impl.Fixed(greatest, width); got != full {
			t.Errorf("Fixed(%d, %d) = %q, want %q", greatest, width, got, full)
		}
		checkReadFixed(t, full, width, greatest, true)
		if got := impl.Fixed(greatest+1, width); got != "" {
			t.Errorf("Fixed(%d, %d) = %q, want none", greatest+1, width, got)
		}
		for n := range 3 {
			s := impl.Fixed(greatest-n, width)
			checkReadFixed(t, s, width, greatest-n, true)
			checkReadFixed(t, s+"more", width, greatest-n, true)
			checkReadFixed(t, s[1:], width, 0, false)
		}
	}
}

func TestFixedInvalid(t *testing.T) {
	for _, n := range []int{-1, -256, math.MinInt, math.MaxInt, 1 << 56} {
		for width := 1; width <= 7; width++ {
			if got := impl.Fixed(n, width); got != "" {
				t.Errorf("Fixed(%d, %d) = %q, want none", n, width, got)
			}
		}
	}
	long := strings.Repeat("\x01", 100)
	for _, width := range []int{0, 8, 9, 64, -1, -8, math.MinInt, math.MaxInt, math.MaxInt/8 + 1} {
		for _, n := range []int{0, 1, 255, -1, math.MaxInt, math.MinInt} {
			if got := impl.Fixed(n, width); got != "" {
				t.Errorf("Fixed(%d, %d) = %q, want none", n, width, got)
			}
		}
		checkReadFixed(t, "", width, 0, false)
		checkReadFixed(t, long, width, 0, false)
	}
	for width := 1; width <= 7; width++ {
		checkReadFixed(t, "", width, 0, false)
		checkReadFixed(t, long[:width-1], width, 0, false)
	}
}

func TestFixedEveryPair(t *testing.T) {
	for n := range 1 << 16 {
		s := string([]byte{byte(n / 256), byte(n % 256)})
		if got := impl.Fixed(n, 2); got != s {
			t.Fatalf("Fixed(%d, 2) = %q, want %q", n, got, s)
		}
		checkReadFixed(t, s, 2, n, true)
	}
}

func TestVarBytes(t *testing.T) {
	cases := []struct {
		n    int
		want string
	}{
		{0, "\x00"},
		{1, "\x01"},
		{127, "\x7f"},
		{128, "\x80\x01"},
		{129, "\x81\x01"},
		{255, "\xff\x01"},
		{256, "\x80\x02"},
		{300, "\xac\x02"},
		{16383, "\xff\x7f"},
		{16384, "\x80\x80\x01"},
		{impl.MaxVar - 1, "\xfe\xff\xff\xff\xff\xff\x7f"},
		{impl.MaxVar, "\xff\xff\xff\xff\xff\xff\x7f"},
	}
	for _, c := range cases {
		if got := impl.Var(c.n); got != c.want {
			t.Errorf("Var(%d) = %q, want %q", c.n, got, c.want)
		}
		for _, rest := range []string{"", "\x00", "\x01", "\x80", "\xff\xff"} {
			checkReadVar(t, c.want+rest, c.n, len(c.want))
		}
		for i := range len(c.want) {
			checkReadVar(t, c.want[:i], 0, 0)
		}
	}
}

func TestVarGreatestOfEachLength(t *testing.T) {
	for size := 1; size <= 7; size++ {
		greatest := 1<<(7*size) - 1
		want := strings.Repeat("\xff", size-1) + "\x7f"
		if got := impl.Var(greatest); got != want {
			t.Errorf("Var(%d) = %q, want %q", greatest, got, want)
		}
		checkReadVar(t, want+"z", greatest, size)
		next := strings.Repeat("\x80", size) + "\x01"
		if greatest == impl.MaxVar {
			checkReadVar(t, next, 0, 0)
			continue
		}
		if got := impl.Var(greatest + 1); got != next {
			t.Errorf("Var(%d) = %q, want %q", greatest+1, got, next)
		}
		checkReadVar(t, next+"z", greatest+1, size+1)
	}
}

func TestVarInvalid(t *testing.T) {
	if impl.MaxVar != 562949953421311 {
		t.Errorf("MaxVar = %d", impl.MaxVar)
	}
	for _, n := range []int{-1, -128, math.MinInt, impl.MaxVar + 1, 1 << 56, math.MaxInt} {
		if got := impl.Var(n); got != "" {
			t.Errorf("Var(%d) = %q, want none", n, got)
		}
	}
	foreign := []string{
		"",
		"\x80", "\xff", "\x80\x80\x80",
		"\x80\x00", "\xff\x00", "\xac\x82\x00", "\x80\x80\x00z",
		"\xff\xff\xff\xff\xff\xff\x00",
		"\x80\x80\x80\x80\x80\x80\x80\x01",
		"\xff\xff\xff\xff\xff\xff\xff\x00",
		"\xff\xff\xff\xff\xff\xff\xff\x7f",
		"\x80\x80\x80\x80\x80\x80\x80\x80\x80\x01",
		"\x81\x80\x80\x80\x80\x80\x80\x80\x80\x80\x00",
		strings.Repeat("\x80", 100),
		strings.Repeat("\xff", 100) + "\x01",
	}
	for _, s := range foreign {
		checkReadVar(t, s, 0, 0)
	}
}

func TestReadVarEveryPair(t *testing.T) {
	number := map[string]int{}
	for n := range 1 << 14 {
		number[impl.Var(n)] = n
	}
	if len(number) != 1<<14 {
		t.Fatalf("%d varints of %d numbers", len(number), 1<<14)
	}
	for first := range 256 {
		for second := range 256 {
			s := string([]byte{byte(first), byte(second)})
			if n, ok := number[s[:1]]; ok {
				checkReadVar(t, s, n, 1)
			} else if n, ok := number[s]; ok {
				checkReadVar(t, s, n, 2)
			} else {
				checkReadVar(t, s, 0, 0)
			}
		}
	}
}

func TestReadVarAcceptsNothingElse(t *testing.T) {
	for _, s := range stringsOver("\x00\x01\x7f\x80\xff", 8) {
		n, size := impl.ReadVar(s)
		if size == 0 && n != 0 {
			t.Fatalf("ReadVar(%q) = %d, 0", s, n)
		}
		if size != 0 && (size < 0 || size > len(s) || impl.Var(n) != s[:size]) {
			t.Fatalf("ReadVar(%q) = %d, %d, but Var gives %q", s, n, size, impl.Var(n))
		}
	}
}

func TestHexBytes(t *testing.T) {
	cases := []struct{ s, want string }{
		{"", ""},
		{"a\xff", "61ff"},
		{"\x00", "00"},
		{"\x09\x0a\x90\xa0", "090a90a0"},
		{"\x01\x23\x45\x67\x89\xab\xcd\xef", "0123456789abcdef"},
		{"é", "c3a9"},
	}
	for _, c := range cases {
		if got := impl.Hex(c.s); got != c.want {
			t.Errorf("Hex(%q) = %q, want %q", c.s, got, c.want)
		}
		checkUnhex(t, c.want, c.s, true)
	}
}

func TestUnhexEveryPair(t *testing.T) {
	byteOf := map[string]string{}
	for b := range 256 {
		s := string([]byte{byte(b)})
		h := impl.Hex(s)
		if len(h) != 2 {
			t.Fatalf("Hex(%q) = %q", s, h)
		}
		byteOf[h] = s
	}
	if len(byteOf) != 256 {
		t.Fatalf("%d formats of 256 bytes", len(byteOf))
	}
	for first := range 256 {
		for second := range 256 {
			pair := string([]byte{byte(first), byte(second)})
			s, ok := byteOf[pair]
			checkUnhex(t, pair, s, ok)
		}
	}
}

func TestUnhexInvalid(t *testing.T) {
	foreign := []string{
		"6", "616", "61ff0",
		"6F", "A0", "61FF", "aF",
		"6g", "g6", "/0", ":0", "`0", "0G", "0@",
		" 6", "6 ", "61 ff", "0x61", "61\n", "61\x00", "\xff\xff",
		"61zz", "zz61", "61f\x00", "é",
	}
	for _, s := range foreign {
		checkUnhex(t, s, "", false)
	}
}

func TestDecFormat(t *testing.T) {
	cases := []struct {
		n    int
		want string
	}{
		{0, "0"}, {7, "7"}, {-7, "-7"}, {10, "10"}, {-120, "-120"},
		{999999999, "999999999"}, {-999999999, "-999999999"},
		{1000000000, "1000000000"}, {-1000000000, "-1000000000"},
		{math.MaxInt, "9223372036854775807"},
		{math.MinInt, "-9223372036854775808"},
	}
	for _, c := range cases {
		if got := impl.Dec(c.n); got != c.want {
			t.Errorf("Dec(%d) = %q, want %q", c.n, got, c.want)
		}
		if digits := strings.TrimPrefix(c.want, "-"); len(digits) <= 9 {
			checkReadDec(t, c.want, c.n, true)
		} else {
			checkReadDec(t, c.want, 0, false)
		}
	}
}

func TestReadDecNineDigits(t *testing.T) {
	power := 1
	for range 9 {
		for _, n := range []int{power, power*10 - 1, -power, 1 - power*10} {
			checkReadDec(t, impl.Dec(n), n, true)
		}
		power *= 10
	}
	for _, n := range []int{power, power + 1, -power, math.MaxInt, math.MinInt} {
		checkReadDec(t, impl.Dec(n), 0, false)
	}
}

func TestReadDecInvalid(t *testing.T) {
	foreign := []string{
		"", "-", "--", "--7", "-0", "+0", "+7", "-+7", "+-7", "7-", "7+",
		"00", "01", "07", "-07", "000000001", "0000000001", "-000000001",
		" 7", "7 ", "7\n", "7\x00", "\x007", "- 7",
		"1_0", "1,000", "1.0", "1e3", "0x7", "0b1", "0o7", "ten", "a", "7a",
		"\xb7", "７", "٣", "−7",
		"9223372036854775808", "18446744073709551617",
		strings.Repeat("0", 100), strings.Repeat("9", 100), strings.Repeat("-", 100),
	}
	for _, s := range foreign {
		checkReadDec(t, s, 0, false)
	}
}

func TestReadDecAcceptsNothingElse(t *testing.T) {
	number := map[string]int{}
	for n := -99999; n <= 99999; n++ {
		number[impl.Dec(n)] = n
	}
	for _, s := range stringsOver("-+0179 _a", 5) {
		n, ok := number[s]
		checkReadDec(t, s, n, ok)
	}
}
