package ranges_test

import (
	"math/rand"
	"slices"
	"strings"
	"testing"

	"shard/api"
	"shard/ranges"
)

func isRead(t *testing.T, s string, limit int, wantAt int, want api.Errno) {
	t.Helper()
	x, at, e := ranges.Read(s, limit)
	if at != wantAt || e != want || (x != nil) != (want == api.OK) {
		t.Errorf("Read(%q, %d): %v, %d, %d; want %d, %d", s, limit, x, at, e, wantAt, want)
	}
	holdRead(t, s, limit)
}

// holdRead holds Read against the document's.
func holdRead(t *testing.T, s string, limit int) {
	t.Helper()
	x, at, e := ranges.Read(s, limit)
	want, wantAt, wantErr := docRead(s, limit)
	if at != wantAt || e != wantErr || (x != nil) != (wantErr == api.OK) {
		t.Fatalf("Read(%q, %d): %v, %d, %d; want %d, %d", s, limit, x, at, e, wantAt, wantErr)
	}
	if e == api.OK && (!slices.Equal(x.List(), want) || x.Limit() != limit) {
		t.Fatalf("Read(%q, %d): %v; want %v", s, limit, x.List(), want)
	}
}

func TestP6_9ReadExamples(t *testing.T) {
	isRead(t, "0-9:1  10-18446744073709551615:2", 4, 6, api.ErrTabText)
	isRead(t, "0-09:1", 4, 0, api.ErrTabText)
	isRead(t, "5-9:1 7-8:99", 4, 6, api.ErrTabText)
	isRead(t, "5-9:1", 4, 0, api.ErrTable)
	isRead(t, "0-9:1", 4, 5, api.ErrTable)
	isRead(t, "0-9:1 10-3:2", 4, 6, api.ErrRange)
	isRead(t, three, 3, 0, api.OK)
	isRead(t, three, 2, len(three), api.ErrSegments)
}

// A word that is not of the form is told at its begin, alone, ahead of others, between and behind them.
func TestP6_9ReadOfWrongWords(t *testing.T) {
	for _, word := range []string{
		"", "-", ":", "-:", "0", "0-", "0-9", "0-9:", "-9:1", ":1", "0:1", "0:9-1", "-:1", "0-:1", "9:1-0", "0-9:1:1", "0-9-9:1", "0--9:1", "0-9::1", "0-9:-1", "-0-9:1",
		"00-9:1", "01-9:1", "0-09:1", "0-00:1", "0-9:01", "0-9:00", "0-9:16", "0-9:17", "0-9:99", "0-9:100", "0-9:256", "0-9:257", "0-9:65536", "0-9:4294967296", "0-9:18446744073709551615", "0-9:18446744073709551616",
		"0-18446744073709551616:1", "18446744073709551616-18446744073709551616:1", "0-18446744073709551625:1", "0-20000000000000000000:1", "0-99999999999999999999:1", "0-184467440737095516150:1",
		"0x0-9:1", "0-0x9:1", "0-9:0x1", "0x-9:1", "0-9:0xf", "+0-9:1", "0-+9:1", "0-9:+1", "0_0-9:1", "0-1_0:1", "0-9.0:1", "0-1e1:1", "a-9:1", "0-a:1", "0-9:a", "0-9:1a", "0-9:A",
		"0-9:1\t", "\t0-9:1", "0-9:1\n", "0-9\u00a0:1", "\u00a00-9:1", "0\u20109:1", "0\u22129:1", "\u0660-9:1", "0-\uff19:1", "0-9:1\x00", "\x000-9:1", "0-9:\xff", "\xff", "\"0-9:1\"", "#",
	} {
		holdRead(t, word, 4)
		isRead(t, word, 4, 0, api.ErrTabText)
		isRead(t, word+" 0-9:1", 4, 0, api.ErrTabText)
		isRead(t, "0-9:1 "+word, 4, 6, api.ErrTabText)
		isRead(t, "0-9:1 "+word+" "+word, 4, 6, api.ErrTabText)
		isRead(t, "7-3:1 0-0:0 "+word+" 0-9:1", 4, 12, api.ErrTabText)
		isRead(t, three+" "+word, 1, len(three)+1, api.ErrTabText)
		isRead(t, word, 0, 0, api.ErrLimit)
	}
}

func TestP6_9ReadOfBlanks(t *testing.T) {
	for _, c := range []struct {
		s  string
		at int
	}{{"", 0}, {" ", 0}, {"  ", 0}, {" " + three, 0}, {three + " ", len(three) + 1}, {three + "  ", len(three) + 1}, {"0-9:1  ", 6}, {"0-9:1 10-19:2  20-18446744073709551615:3", 14}} {
		isRead(t, c.s, 4, c.at, api.ErrTabText)
	}
	isRead(t, strings.ReplaceAll(three, " ", "\t"), 4, 0, api.ErrTabText)
	isRead(t, strings.ReplaceAll(three, " ", "\n"), 4, 0, api.ErrTabText)
}

// Where the words are of the form the table's own errors are told, at the word at fault or behind all.
func TestP6_9ReadOfWordsThatAreNoTable(t *testing.T) {
	isRead(t, "1-18446744073709551615:1", 4, 0, api.ErrTable)
	isRead(t, "5-3:1", 4, 0, api.ErrTable)
	isRead(t, "0-9:1 11-18446744073709551615:2", 4, 6, api.ErrTable)
	isRead(t, "0-9:1 9-18446744073709551615:2", 4, 6, api.ErrTable)
	isRead(t, "0-9:1 10-9:2 0-0:0", 4, 6, api.ErrRange)
	isRead(t, "0-9:1 10-19:2 20-0:3", 1, 14, api.ErrRange)
	isRead(t, "0-9:1 10-19:2 20-29:3", 1, 21, api.ErrTable)
	isRead(t, "0-18446744073709551614:1", 4, 24, api.ErrTable)
	isRead(t, "0-18446744073709551615:1 0-1:1", 4, 25, api.ErrTable)
	isRead(t, "0-18446744073709551615:1 0-18446744073709551615:1", 1, 25, api.ErrTable)
	isRead(t, "0-18446744073709551615:1 18446744073709551615-18446744073709551615:1", 4, 25, api.ErrTable)
	isRead(t, "0-9:1 10-18446744073709551615:2", 1, 31, api.ErrSegments)
	isRead(t, "0-9:15 10-18446744073709551615:0", 2, 0, api.OK)
}

func TestP6_9ReadOfWrongLimits(t *testing.T) {
	for _, limit := range noLimits {
		for _, s := range []string{three, "", "x", "5-3:1", "0-9:1 x"} {
			isRead(t, s, limit, 0, api.ErrLimit)
		}
	}
	isRead(t, three, most, 0, api.OK)
}

func TestP6_9ReadJoinsAndTextWritesShorter(t *testing.T) {
	isText(t, read(t, "0-9:1 10-18446744073709551615:1", 1), "0-18446744073709551615:1")
	isText(t, read(t, "0-0:3 1-1:3 2-2:4 3-3:4 4-18446744073709551615:3", 3), "0-1:3 2-3:4 4-18446744073709551615:3")
}

func TestP6_9TextExamples(t *testing.T) {
	x := newTable(t, 0, 8)
	isText(t, x, "0-18446744073709551615:0")
	isAssign(t, x, 100, 199, 3, api.OK)
	isText(t, x, three)
	isAssign(t, x, 0, 0, 15, api.OK)
	isAssign(t, x, top, top, 10, api.OK)
	isText(t, x, "0-0:15 1-99:0 100-199:3 200-18446744073709551614:0 18446744073709551615-18446744073709551615:10")
}

// Each host is written and read.
func TestP6_9TextOfEachHost(t *testing.T) {
	for host := range api.Addr(16) {
		x := newTable(t, host, 1)
		isText(t, x, wordOf(seg(0, top, host)))
		isText(t, read(t, x.Text(), 1), x.Text())
	}
}

func TestP6_9TextOfManySegments(t *testing.T) {
	x := comb(t, most, most)
	y := read(t, x.Text(), most)
	isDiff(t, x, y)
	isNumber(t, y.Len(), most)
	isRead(t, x.Text(), most-1, len(x.Text()), api.ErrSegments)
}

// Texts of tables, and what a byte more, fewer or other makes of them.
func TestP6_9ReadOfSpoiltTexts(t *testing.T) {
	const bytes = "0123456789-: x\t\xff"
	rnd := rand.New(rand.NewSource(69))
	for range 20000 {
		d := newDoc(api.Addr(rnd.Intn(16)), most)
		for range rnd.Intn(4) {
			d = d.given(edges[rnd.Intn(len(edges))], lastOf(rnd.Intn(len(edges))), api.Addr(rnd.Intn(16)))
		}
		s := []byte(d.text())
		for range rnd.Intn(3) {
			at, b := rnd.Intn(len(s)), bytes[rnd.Intn(len(bytes))]
			switch rnd.Intn(3) {
			case 0:
				s[at] = b
			case 1:
				s = slices.Insert(s, at, b)
			case 2:
				s = slices.Delete(s, at, at+1)
			}
		}
		holdRead(t, string(s), 1+rnd.Intn(5))
	}
}
