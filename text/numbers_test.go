package text_test

import (
	"math"
	"math/big"
	"math/rand"
	"strings"
	"testing"

	"shard/api"
	"shard/text"
)

func TestP1_8NumberOfTexts(t *testing.T) {
	for _, c := range []struct {
		s    string
		want uint64
	}{
		{"0", 0}, {"1", 1}, {"9", 9}, {"10", 10}, {"907", 907}, {"18446744073709551609", math.MaxUint64 - 6}, {"18446744073709551615", math.MaxUint64},
		{"0x0", 0}, {"0x00ff", 255}, {"0x0123456789abcdef", 0x0123456789abcdef}, {"0xABCDEF", 0xabcdef}, {"0xFfFfFfFfFfFfFfFf", math.MaxUint64}, {"0x0000000000000000", 0}, {"0x8000000000000000", 1 << 63},
	} {
		if got, at, e := text.Number(c.s); got != c.want || at != 0 || e != api.OK {
			t.Errorf("Number(%q) = %d, %d, %d, want %d", c.s, got, at, e, c.want)
		}
	}
}

func TestP1_8NumberOfFaults(t *testing.T) {
	for _, c := range []struct {
		s  string
		at int
		e  api.Errno
	}{
		{"", 0, api.ErrDigit}, {"0x", 2, api.ErrDigit}, {"007", 1, api.ErrDigit}, {"01", 1, api.ErrDigit}, {"00", 1, api.ErrDigit}, {"0X1", 1, api.ErrDigit}, {"0 ", 1, api.ErrDigit}, {"0\xff", 1, api.ErrDigit}, {"x1", 0, api.ErrDigit}, {"-1", 0, api.ErrDigit}, {"+1", 0, api.ErrDigit}, {" 1", 0, api.ErrDigit},
		{"12a", 2, api.ErrDigit}, {"1x2", 1, api.ErrDigit}, {"1_0", 1, api.ErrDigit}, {"1 ", 1, api.ErrDigit}, {"1/", 1, api.ErrDigit}, {"1:", 1, api.ErrDigit}, {"é", 0, api.ErrDigit}, {"1\u0663", 1, api.ErrDigit},
		{"0x1g", 3, api.ErrDigit}, {"0xG", 2, api.ErrDigit}, {"0x`", 2, api.ErrDigit}, {"0x@", 2, api.ErrDigit}, {"0x/", 2, api.ErrDigit}, {"0x:", 2, api.ErrDigit}, {"0x-1", 2, api.ErrDigit}, {"0x0x1", 3, api.ErrDigit}, {"0x1\xff", 3, api.ErrDigit},
		{"18446744073709551616", 19, api.ErrLarge}, {"18446744073709551616x", 19, api.ErrLarge}, {"18446744073709551619", 19, api.ErrLarge}, {"18446744073709551620", 19, api.ErrLarge}, {"184467440737095516150", 20, api.ErrLarge}, {"18446744073709551615x", 20, api.ErrDigit}, {"1844674407370955161x", 19, api.ErrDigit}, {"99999999999999999999", 19, api.ErrLarge}, {"100000000000000000000", 20, api.ErrLarge}, {"20000000000000000000", 19, api.ErrLarge},
		{"0x00000000000000000", 18, api.ErrLarge}, {"0x11111111111111111g", 18, api.ErrLarge}, {"0x0000000000000000g", 18, api.ErrDigit}, {"0xfffffffffffffffff", 18, api.ErrLarge},
	} {
		if got, at, e := text.Number(c.s); got != 0 || at != c.at || e != c.e {
			t.Errorf("Number(%q) = %d, %d, %d, want place %d, %d", c.s, got, at, e, c.at, c.e)
		}
	}
}

// Every decimal text of 1 to 24 digits that is near a power of two or has random digits, against math/big.
func TestP1_8NumberAsMathBigHasIt(t *testing.T) {
	rng := rand.New(rand.NewSource(2))
	most := new(big.Int).SetUint64(math.MaxUint64)
	for range 20000 {
		n := new(big.Int).Lsh(big.NewInt(1), uint(rng.Intn(72)))
		n.Add(n, big.NewInt(rng.Int63n(1<<uint(1+rng.Intn(62)))-4))
		if n.Sign() < 0 {
			continue
		}
		s := n.String()
		wantAt := 0
		for wantAt < len(s) {
			prefix, _ := new(big.Int).SetString(s[:wantAt+1], 10)
			if prefix.Cmp(most) > 0 {
				break
			}
			wantAt++
		}
		got, at, e := text.Number(s)
		if wantAt == len(s) && (got != n.Uint64() || at != 0 || e != api.OK) {
			t.Fatalf("Number(%s) = %d, %d, %d", s, got, at, e)
		}
		if wantAt < len(s) && (got != 0 || at != wantAt || e != api.ErrLarge) {
			t.Fatalf("Number(%s) = %d, %d, %d, want place %d, ErrLarge", s, got, at, e, wantAt)
		}
	}
}

func TestP1_8NumberOfEveryByte(t *testing.T) {
	for b := range 256 {
		s := string([]byte{byte(b)})
		for _, c := range []struct{ head, digits string }{{"", "0123456789"}, {"7", "0123456789"}, {"0", ""}, {"0x", "0123456789abcdefABCDEF"}, {"0x7", "0123456789abcdefABCDEF"}} {
			want, wantAt := api.OK, 0
			switch {
			case c.head == "0" && s == "x":
				want, wantAt = api.ErrDigit, 2
			case !strings.Contains(c.digits, s):
				want, wantAt = api.ErrDigit, len(c.head)
			}
			if _, at, e := text.Number(c.head + s); at != wantAt || e != want {
				t.Errorf("Number(%q) = %d, %d, want %d, %d", c.head+s, at, e, wantAt, want)
			}
		}
	}
}

func TestP1_9Digits(t *testing.T) {
	for _, c := range []struct {
		n    uint64
		form int
		want string
		e    api.Errno
	}{
		{0, 0, "0", 0}, {7, 0, "7", 0}, {99, 0, "99", 0}, {100, 0, "100", 0}, {math.MaxUint64, 0, "18446744073709551615", 0}, {1 << 63, 0, "9223372036854775808", 0},
		{0, 1, "0x0", 0}, {42, 1, "0x2a", 0}, {0xABC, 1, "0xabc", 0}, {math.MaxUint64, 1, "0xffffffffffffffff", 0},
		{0, 2, "0x0000000000000000", 0}, {42, 2, "0x000000000000002a", 0}, {math.MaxUint64, 2, "0xffffffffffffffff", 0}, {1 << 60, 2, "0x1000000000000000", 0},
		{42, 3, "", api.ErrArg}, {42, -1, "", api.ErrArg}, {0, math.MaxInt, "", api.ErrArg}, {0, math.MinInt, "", api.ErrArg},
	} {
		if got, e := text.Digits(c.n, c.form); got != c.want || e != c.e {
			t.Errorf("Digits(%d, %d) = %q, %d, want %q, %d", c.n, c.form, got, e, c.want, c.e)
		}
	}
}

func TestP1_9NumberReadsDigitsBack(t *testing.T) {
	rng := rand.New(rand.NewSource(3))
	for range 5000 {
		n := rng.Uint64() >> rng.Intn(64)
		for form := range 3 {
			s, e := text.Digits(n, form)
			if got, at, e2 := text.Number(s); got != n || at != 0 || e != api.OK || e2 != api.OK {
				t.Fatalf("Number(Digits(%d, %d)) = Number(%q) = %d, %d, %d", n, form, s, got, at, e2)
			}
		}
	}
}
